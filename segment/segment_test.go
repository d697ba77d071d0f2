package segment_test

import (
	"math"
	"math/rand"
	"slices"
	"strconv"
	"strings"
	"sync"
	"testing"
	"time"

	"virgule/api"
	"virgule/segment"
)

func TestShort(t *testing.T) { // P26.1, P26.2, P26.3, for all short texts of some pieces
	j := newJudge(t)
	for _, s := range texts(3, "a é \xf0\x9f _ . 1 - \r \n \u00ad \u0301 \u200b <b> <p> </p> <br> <wbr> <nobr> </nobr> <pre> </pre> <title> </title> <script> </script> &lt; &#13; &shy; <!----> \x1b[m < &") {
		j.hold(t, s)
	}
	for _, s := range texts(2, "a é \xf0\x9f _ . \r \n \u00ad \u0301 <p> <br> <wbr> <nobr> <pre> <title> <script> </script> &#10; <!-- < &") {
		j.holdAsks(t, s)
		holdPlaces(t, j.tool, s)
	}
}

func TestLists(t *testing.T) { // P26.1, for longer texts, of what the rules of a mode speak of
	j := newJudge(t)
	for _, pieces := range []string{
		"🇦 🇧 <b> a \u0301",
		"👨 \u200d \u0301 <!----> é",
		"a : 1 , _",
		"a . _ A )",
		"a _ - ( &#xa0;",
		"a \u00ad _ <nobr> </nobr>",
		"a \r \n <pre> </pre>",
		"a _ <wbr> <nobr> </nobr>",
		"가 ᄀ ᅡ ᆨ <br>",
		"カ _ \u200b <br/> a",
	} {
		for _, s := range texts(5, pieces) {
			j.hold(t, s)
		}
	}
}

func TestEachByte(t *testing.T) { // P26.1, P26.3, for every byte
	j := newJudge(t)
	for c := range 256 {
		s := string([]byte{byte(c)})
		for _, ahead := range []string{"", "a", "a.", "<b>", "\xf0\x9f"} {
			for _, behind := range []string{"", "a", "1", "</b>", "\x98"} {
				j.hold(t, ahead+s+behind)
				holdPlaces(t, j.tool, ahead+s+behind)
			}
		}
	}
}

// damaged is a text of some pieces by chance, of which now and then a byte is changed.
func damaged(rng *rand.Rand, most int) string {
	some := []string{"a", "b c", "X. Y", "1,5", "it's", "(a) ", "é", "e\u0301", "\u00ad", "🇦🇧", "👨\u200d👩", "가", "カ", "\r\n", "\n", "\xf0\x9f", "<", "/", "&", "<b>", "</b>", "<BR a='1>2'>", "<p>", "</p>", "<wbr>", "<nobr>", "</nobr>", "<pre>", "</pre>", "<title>", "</title>", "<!--x-->", "<?a?>", "&amp;", "&#x1f600;", "&shy;", "&#32;", "&lt", "\x1b[31m", "<script>", "</script>"}
	var b []byte
	for range rng.Intn(most) {
		b = append(b, some[rng.Intn(len(some))]...)
		if rng.Intn(12) == 0 {
			b[rng.Intn(len(b))] = byte(rng.Intn(256))
		}
	}
	return string(b)
}

func TestDamaged(t *testing.T) { // P26.1, P26.2, P26.3, for many tokens behind one another, and damaged ones
	j := newJudge(t)
	rng := rand.New(rand.NewSource(1))
	for i := range 2400 {
		s := damaged(rng, 20)
		j.hold(t, s)
		holdPlaces(t, j.tool, s)
		if i%8 == 0 {
			j.holdAsks(t, s)
		}
	}
}

// print is boundaries as offsets with their kinds: nothing for a rule, f for forced, c for a chance, e for an edge.
func print(l []segment.Boundary) string {
	var out []string
	for _, x := range l {
		out = append(out, strconv.Itoa(x.At)+[]string{"e", "", "f", "c"}[x.Kind])
	}
	return strings.Join(out, " ")
}

// told holds the boundaries of a text in all modes against those written out by hand.
func told(t *testing.T, s string, want ...string) {
	t.Helper()
	x := segment.New()
	for _, m := range modes() {
		l, err := x.All(m, []byte(s))
		if got := print(l); got != want[m] || err != api.OK {
			t.Errorf("%v: %q: %s, %v, not %s", m, s, got, err, want[m])
		}
	}
}

func TestByHand(t *testing.T) { // P26.1: grapheme, word, sentence, line
	told(t, "", "0e", "0e", "0e", "0e")
	told(t, "a", "0e 1e", "0e 1e", "0e 1e", "0e 1e")
	told(t, "a b<br>c", "0e 1 2 7f 8e", "0e 1 2 7f 8e", "0e 7f 8e", "0e 2 7f 8e")
	told(t, "e\u0301<!--x-->&amp;", "0e 11 16e", "0e 11 16e", "0e 16e", "0e 16e")
	told(t, "a <nobr>b c</nobr> d", "0e 1 8 9 10 18 19 20e", "0e 1 8 9 10 18 19 20e", "0e 20e", "0e 8 19 20e")
	told(t, "ab<wbr>c", "0e 1 7 8e", "0e 8e", "0e 8e", "0e 7c 8e")
	told(t, "ab\u00adc&shy;d", "0e 1 4 10 11e", "0e 11e", "0e 11e", "0e 4c 10c 11e")
	told(t, "ab\u00adc&#xad;d", "0e 1 4 11 12e", "0e 12e", "0e 12e", "0e 4c 11c 12e")
	told(t, "Hi. Yes", "0e 1 2 3 4 5 6 7e", "0e 2 3 4 7e", "0e 4 7e", "0e 4 7e")
	told(t, "\r&#10;x", "0e 6 7e", "0e 6 7e", "0e 6 7e", "0e 6 7e")
	told(t, "<pre>a b\nc</pre>", "0e 6 7 8 9 16e", "0e 6 7 8 9 16e", "0e 9 16e", "0e 9 16e")
	told(t, "\xf0\x9f\x98", "0e 3e", "0e 3e", "0e 3e", "0e 3e")
	told(t, "a<script>b c</script>d", "0e 21 22e", "0e 22e", "0e 22e", "0e 22e")
}

func TestMarks(t *testing.T) { // P26.1: what marks do at the ends, where no boundary is but the edges
	for _, s := range []string{"<b>", "<br>", "<p>", "<wbr>", "<p><br><wbr></p>", "<title>a b</title>", "<script>a b</script>", "<!--a b-->", "\x1b[31m", "<p>a", "<br>a", "a<br>", "a</p>", "a<wbr>", "<wbr>a", "<p>a</p>", "<p><br>&lt;<br></p>", "<title>a<br>b</title>c", "a<title>b<br>c"} {
		want := "0e " + strconv.Itoa(len(s)) + "e"
		told(t, s, want, want, want, want)
	}
	told(t, "a<p></p>", "0e 8e", "0e 8e", "0e 8e", "0e 8e")
	told(t, "<p>a<p>b", "0e 7f 8e", "0e 7f 8e", "0e 7f 8e", "0e 7f 8e")
	told(t, "a<p><b></b><wbr>b", "0e 16f 17e", "0e 16f 17e", "0e 16f 17e", "0e 16f 17e")
	told(t, "a <b>b", "0e 1 5 6e", "0e 1 5 6e", "0e 6e", "0e 5 6e")
	told(t, "a<nobr>b<br>c", "0e 7 12f 13e", "0e 12f 13e", "0e 12f 13e", "0e 12f 13e")
	told(t, "<nobr>a<wbr>b &shy;c</nobr>", "0e 12 13 19 27e", "0e 13 19 27e", "0e 27e", "0e 27e")
}

func TestAsks(t *testing.T) { // P26.2, by hand: of a b<br>c by line, which has 0, 2, 7 (forced) and 8
	x, b := segment.New(), []byte("a b<br>c")
	none := segment.Boundary{}
	for at, want := range []struct {
		next, preceding segment.Boundary
		is              bool
	}{
		{segment.Boundary{At: 2, Kind: api.ByRule}, none, true},
		{segment.Boundary{At: 2, Kind: api.ByRule}, segment.Boundary{At: 0, Kind: api.Edge}, false},
		{segment.Boundary{At: 7, Kind: api.Forced}, segment.Boundary{At: 0, Kind: api.Edge}, true},
		{segment.Boundary{At: 7, Kind: api.Forced}, segment.Boundary{At: 2, Kind: api.ByRule}, false},
		{segment.Boundary{At: 7, Kind: api.Forced}, segment.Boundary{At: 2, Kind: api.ByRule}, false},
		{segment.Boundary{At: 7, Kind: api.Forced}, segment.Boundary{At: 2, Kind: api.ByRule}, false},
		{segment.Boundary{At: 7, Kind: api.Forced}, segment.Boundary{At: 2, Kind: api.ByRule}, false},
		{segment.Boundary{At: 8, Kind: api.Edge}, segment.Boundary{At: 2, Kind: api.ByRule}, true},
		{none, segment.Boundary{At: 7, Kind: api.Forced}, true},
	} {
		if y, ok, err := x.Next(line, b, at); y != want.next || ok != (at < 8) || err != api.OK {
			t.Error("Next", at, y, ok, err)
		}
		if y, ok, err := x.Preceding(line, b, at); y != want.preceding || ok != (at > 0) || err != api.OK {
			t.Error("Preceding", at, y, ok, err)
		}
		if is, err := x.Is(line, b, at); is != want.is || err != api.OK {
			t.Error("Is", at, is, err)
		}
	}
	p, err := x.Pieces(line, b)
	if !slices.Equal(p, []segment.Piece{{From: 0, To: 2}, {From: 2, To: 7}, {From: 7, To: 8}}) || err != api.OK {
		t.Error(p, err)
	}
}

func TestNoBytes(t *testing.T) { // P26.1, P26.2
	x := segment.New()
	for _, m := range modes() {
		for _, b := range [][]byte{nil, {}, make([]byte, 0, 9), []byte("abc")[:0]} {
			if l, err := x.All(m, b); !slices.Equal(l, []segment.Boundary{{At: 0, Kind: api.Edge}}) || err != api.OK {
				t.Error(m, l, err)
			}
			if l, err := x.Pieces(m, b); len(l) != 0 || err != api.OK {
				t.Error(m, l, err)
			}
			if y, ok, err := x.Next(m, b, 0); y != (segment.Boundary{}) || ok || err != api.OK {
				t.Error(m, y, ok, err)
			}
			if y, ok, err := x.Preceding(m, b, 0); y != (segment.Boundary{}) || ok || err != api.OK {
				t.Error(m, y, ok, err)
			}
			if is, err := x.Is(m, b, 0); !is || err != api.OK {
				t.Error(m, is, err)
			}
			for _, at := range []int{math.MinInt, -1, 1, math.MaxInt} {
				holdError(t, x, m, b, at, api.ErrRange)
			}
		}
	}
}

// holdFails has that every call with these arguments is answered by an error, and by nothing else.
func holdFails(t *testing.T, x *segment.Tool, m api.Mode, b []byte, want api.Errno) {
	t.Helper()
	if l, err := x.All(m, b); len(l) != 0 || err != want {
		t.Fatalf("%v: All of %d bytes: %v, %v, not %v", m, len(b), l, err, want)
	}
	if l, err := x.Pieces(m, b); len(l) != 0 || err != want {
		t.Fatalf("%v: Pieces of %d bytes: %v, %v, not %v", m, len(b), l, err, want)
	}
	for _, at := range []int{math.MinInt, -1, 0, 1, len(b), len(b) + 1, math.MaxInt} {
		holdError(t, x, m, b, at, want)
	}
}

func TestWrong(t *testing.T) { // P26.1, P26.2: which error is told first
	x := segment.New()
	long := [][]byte{make([]byte, 65537), []byte(strings.Repeat("<b>", 30000)), make([]byte, 1<<20)}
	short := [][]byte{nil, []byte("a b"), []byte("<br>")}
	for _, b := range append(long, short...) {
		for _, m := range noModes() {
			holdFails(t, x, m, b, api.ErrArg)
		}
		for _, m := range append(modes(), noModes()...) {
			holdFails(t, nil, m, b, api.ErrArg)
		}
	}
	for _, b := range long {
		for _, m := range modes() {
			holdFails(t, x, m, b, api.ErrLong)
		}
	}
	if l, err := x.All(word, short[1]); print(l) != "0e 1 2 3e" || err != api.OK {
		t.Error("behind errors:", print(l), err)
	}
}

func TestMost(t *testing.T) { // P26.1, P26.2: as many bytes as may be
	x := segment.New()
	b := []byte(strings.Repeat("a", 65533) + "<b>b")[:65536]
	for _, m := range modes() {
		l, err := x.All(m, b)
		if err != api.OK || l[len(l)-1].At != 65536 || m == grapheme && len(l) != 65534 || m != grapheme && len(l) != 2 {
			t.Error(m, len(l), err)
		}
		if y, ok, err := x.Next(m, b, 65535); y != (segment.Boundary{At: 65536}) || !ok || err != api.OK {
			t.Error(m, y, ok, err)
		}
		holdError(t, x, m, b, 65537, api.ErrRange)
	}
}

func TestMemory(t *testing.T) { // arguments aren't kept or changed, and answers are new
	x := segment.New()
	room := []byte("a b<br>cXYZ<p>")
	for range 2 { // the second time behind changes of what was answered the first time
		l, err := x.All(line, room[:8])
		p, perr := x.Pieces(line, room[:8])
		if print(l) != "0e 2 7f 8e" || err != api.OK || len(p) != 3 || p[2] != (segment.Piece{From: 7, To: 8}) || perr != api.OK {
			t.Fatal(l, err, p, perr)
		}
		clear(l[:cap(l)])
		clear(p[:cap(p)])
	}
	if string(room) != "a b<br>cXYZ<p>" {
		t.Errorf("%q", room)
	}
	copy(room, "abcdefgh")
	if l, err := x.All(word, room[:8]); print(l) != "0e 8e" || err != api.OK {
		t.Error(l, err)
	}
}

func TestOrder(t *testing.T) { // an answer doesn't hang on what was asked ahead of it
	some := []string{"a b<br>c", "", "<nobr>a b", "a\u00adb. C", "🇦🇧🇦", "<pre>a\r", "<title>"}
	rng := rand.New(rand.NewSource(3))
	old := segment.New()
	for range 200 {
		m, s := modes()[rng.Intn(4)], some[rng.Intn(len(some))]
		old.Is(noModes()[rng.Intn(9)], []byte(s), 0)
		got, _ := old.All(m, []byte(s))
		want, _ := segment.New().All(m, []byte(s))
		if !slices.Equal(got, want) {
			t.Fatalf("%v: %q: %v, a new one %v", m, s, got, want)
		}
	}
}

func TestTogether(t *testing.T) { // one tool's tables may be asked for at the same time
	x := segment.New()
	var all sync.WaitGroup
	got := make([]string, 8)
	for i := range got {
		all.Add(1)
		go func() {
			defer all.Done()
			l, _ := x.All(api.Mode(i%4), []byte("a b<br>c"))
			got[i] = print(l)
		}()
	}
	all.Wait()
	for i, s := range got {
		if want := []string{"0e 1 2 7f 8e", "0e 1 2 7f 8e", "0e 7f 8e", "0e 2 7f 8e"}[i%4]; s != want {
			t.Error(i, s)
		}
	}
}

func TestShelf(t *testing.T) { // a tool is a shelf too
	x := segment.New()
	if m, ok := x.Table(line); !ok || !slices.Equal(m.Breaks([]int{18, 29, 18}), []bool{true, false, true, true}) {
		t.Error(m, ok)
	}
	if _, ok := x.Table(4); ok {
		t.Error("no mode")
	}
}

func TestLong(t *testing.T) { // the time grows with the bytes alone
	x := segment.New()
	for _, piece := range []string{"a", "é", "\xff", "&lt;", "<br>", "a<nobr>", "<title>", "<title>a</title>b", "<script>a</script>", "<", "<b ", "🇦", "a\u0301", "a b. ", "A.", ". ", "👨\u200d", "\x1b["} {
		b := []byte(strings.Repeat(piece, api.MaxLen/len(piece)))
		begun := time.Now()
		for _, m := range modes() {
			if _, err := x.All(m, b); err != api.OK {
				t.Fatal(piece, m, err)
			}
		}
		if took := time.Since(begun); took > 4*time.Second {
			t.Errorf("%q again and again took %v", piece, took)
		}
	}
}
