package extract_test

import (
	"math/rand"
	"slices"
	"strings"
	"testing"
	"time"

	"virgule/extract"
	"virgule/scalar"
	"virgule/token"
)

func TestShort(t *testing.T) { // P23.1, P23.2, P23.3, for all short texts of some pieces
	for _, s := range texts(3, "a", "é", "\xff", "<b>", "<p>", "</p>", "<br>", "<hr/>", "</hr>", "<wbr>", "<wbr/>", "<nobr>", "</nobr>", "<nobr/>", "<pre>", "</pre>", "<title>", "</title>", "<script>", "</script>", "&lt;", "&#0;", "<!---->", "\x1b[m", "\x1b", "<", "&") {
		hold(t, s)
	}
	for _, s := range texts(6, "a", "&lt;", "<p>", "<wbr>", "<b>") {
		hold(t, s)
	}
	for _, s := range texts(6, "a", "<pre>", "</pre>", "<nobr>", "</nobr>") {
		hold(t, s)
	}
	for _, s := range texts(6, "a", "<title>", "</title>", "<p>", "<nobr>") {
		hold(t, s)
	}
}

func TestEachByte(t *testing.T) { // P23.1, P23.3, for every two bytes
	for c := range 1 << 16 {
		s := string([]byte{byte(c >> 8), byte(c)})
		hold(t, s)
		hold(t, "\xf0"+s+"<br>")
		hold(t, "<wbr>"+s+"&amp;")
	}
}

func TestPieces(t *testing.T) { // P23.1, P23.2, P23.3, for many tokens behind one another, and damaged ones
	some := []string{"a", "b c", "é", "\xf0\x9f", "<", "/", "&", "<b>", "</b>", "<br/>", "<BR a='1>2'>", "<p>", "</p>", "<hr>", "<wbr>", "<nobr>", "</nobr>", "<pre>", "</PRE>", "<title>", "</title>", "<head>", "</head>", "<!--x-->", "<?a?>", "&amp;", "&#65;", "&#xd800;", "&lt", "\x1b[31m", "\x1b", "<script>", "<style x>", "</script>", "</STYLE >", "<script/>"}
	rng := rand.New(rand.NewSource(1))
	for range 20000 {
		var b []byte
		for range rng.Intn(20) {
			b = append(b, some[rng.Intn(len(some))]...)
			if rng.Intn(9) == 0 {
				b[rng.Intn(len(b))] = byte(rng.Intn(256))
			}
		}
		hold(t, string(b))
	}
}

// flagged is an item with its flags as letters: f, c, n, p.
func flagged(r rune, at, size int, flags string) extract.Item {
	has := func(flag string) bool { return strings.Contains(flags, flag) }
	return extract.Item{R: r, At: at, Size: size, Forced: has("f"), Chance: has("c"), NoBreak: has("n"), Pre: has("p")}
}

// told holds all items of a text against those written out by hand.
func told(t *testing.T, s string, want ...extract.Item) {
	t.Helper()
	if got := extract.All([]byte(s)); !slices.Equal(got, want) {
		t.Errorf("%q: %+v, not %+v", s, got, want)
	}
	if got := takes(t, []byte(s)); !slices.Equal(got, want) {
		t.Errorf("%q token by token: %+v, not %+v", s, got, want)
	}
}

func TestScalars(t *testing.T) { // P23.1, by hand
	told(t, "")
	told(t, "<b>")
	told(t, "ab", flagged('a', 0, 1, ""), flagged('b', 1, 1, ""))
	told(t, "é<b>\xf0\x9f\x98x", flagged(0xe9, 0, 2, ""), flagged(0xfffd, 5, 3, ""), flagged('x', 8, 1, ""))
	told(t, "\xf0\x9f<b>\x98", flagged(0xfffd, 0, 2, ""), flagged(0xfffd, 5, 1, ""))
	told(t, "&#0;&#x41;&amp;&amp", flagged(0xfffd, 0, 4, ""), flagged('A', 4, 6, ""), flagged('&', 10, 5, ""), flagged('&', 15, 1, ""), flagged('a', 16, 1, ""), flagged('m', 17, 1, ""), flagged('p', 18, 1, ""))
	told(t, "\x1b[1ma<!--b--><!c><?d>e", flagged('a', 4, 1, ""), flagged('e', 21, 1, ""))
	told(t, "a<b", flagged('a', 0, 1, ""))
}

func TestHidden(t *testing.T) { // P23.1, by hand
	told(t, "<title>a&lt;</title>b", flagged('b', 20, 1, ""))
	told(t, "<title>a")
	told(t, "<title><title>a</title>b</title>c", flagged('c', 32, 1, ""))
	told(t, "<script>a<b</script>c", flagged('c', 20, 1, ""))
	told(t, "<script/>a", flagged('a', 9, 1, ""))
	told(t, "a<head><p><wbr><nobr><pre></head>b", flagged('a', 0, 1, ""), flagged('b', 33, 1, ""))
	told(t, "a<p><wbr><head>x</head>b", flagged('a', 0, 1, ""), flagged('b', 23, 1, "fc"))
	told(t, "<nobr><title>x</nobr></title>a", flagged('a', 29, 1, "n"))
	told(t, "</title>a", flagged('a', 8, 1, ""))
}

func TestFlags(t *testing.T) { // P23.1, by hand
	told(t, "a<br>&lt;", flagged('a', 0, 1, ""), flagged('<', 5, 4, "f"))
	told(t, "<p>ab", flagged('a', 3, 1, "f"), flagged('b', 4, 1, ""))
	told(t, "<p>&lt;b", flagged('<', 3, 4, "f"), flagged('b', 7, 1, ""))
	told(t, "<wbr>&lt;b", flagged('<', 5, 4, "c"), flagged('b', 9, 1, ""))
	told(t, "a</p><b><!---->\x1b[m<b>c", flagged('a', 0, 1, ""), flagged('c', 21, 1, "f"))
	told(t, "a<wbr><br>b<wbr>c", flagged('a', 0, 1, ""), flagged('b', 10, 1, "fc"), flagged('c', 16, 1, "c"))
	told(t, "a<br><wbr>b<hr>c", flagged('a', 0, 1, ""), flagged('b', 10, 1, "fc"), flagged('c', 15, 1, "f"))
	told(t, "a</br></hr></wbr>b", flagged('a', 0, 1, ""), flagged('b', 17, 1, ""))
	told(t, "<pre/>a", flagged('a', 6, 1, "f"))
	told(t, "<pre>ab</pre>c", flagged('a', 5, 1, "fp"), flagged('b', 6, 1, "p"), flagged('c', 13, 1, "f"))
	told(t, "a<nobr>b&lt;<nobr>c</nobr>d</nobr>e", flagged('a', 0, 1, ""), flagged('b', 7, 1, "n"), flagged('<', 8, 4, "n"), flagged('c', 18, 1, "n"), flagged('d', 26, 1, "n"), flagged('e', 34, 1, ""))
	told(t, "<nobr><pre>a</nobr>b", flagged('a', 11, 1, "fnp"), flagged('b', 19, 1, "p"))
}

func TestLimits(t *testing.T) { // P23.1, where the nest's counts are full
	for _, x := range []struct {
		ends  int
		flags string
	}{{254, "n"}, {255, ""}, {256, ""}} {
		s := strings.Repeat("<nobr>", 300) + strings.Repeat("</nobr>", x.ends)
		told(t, s+"a", flagged('a', len(s), 1, x.flags))
	}
	s := strings.Repeat("<title>", 300) + strings.Repeat("</title>", 254)
	told(t, s+"a</title>b", flagged('b', len(s)+9, 1, ""))
}

func TestTake(t *testing.T) { // P23.2, with what All doesn't come by
	x := extract.New()
	for _, kind := range []int{token.Comment, token.Decl, token.Escape, token.Raw, -1, 8} {
		if l := x.Take(token.Token{Kind: kind, From: 1, To: 4, Name: "br", R: 'x'}, []byte("<p>")); len(l) != 0 {
			t.Error(kind, l)
		}
	}
	x.Take(token.Token{Kind: token.Start, Name: "br"}, nil)
	if l := x.Take(token.Token{Kind: token.Text, From: 7, To: 7}, nil); len(l) != 0 {
		t.Error(l)
	}
	l := x.Take(token.Token{Kind: token.Text, From: 100, To: 100}, []byte("<\x00&lt;"))
	want := []extract.Item{flagged('<', 100, 1, "f"), flagged(0, 101, 1, ""), flagged('&', 102, 1, ""), flagged('l', 103, 1, ""), flagged('t', 104, 1, ""), flagged(';', 105, 1, "")}
	if !slices.Equal(l, want) {
		t.Errorf("%+v", l)
	}
	for _, b := range []string{"&#x41;", "", "a"} { // a reference's item is by its token alone
		l = x.Take(token.Token{Kind: token.Ref, From: 9, To: 15, R: -5}, []byte(b))
		if !slices.Equal(l, []extract.Item{flagged(-5, 9, 6, "")}) {
			t.Errorf("%q: %+v", b, l)
		}
	}
}

func TestNil(t *testing.T) { // P23.2
	var x *extract.Extractor
	for _, one := range []token.Token{{Kind: token.Text, To: 1}, {Kind: token.Ref, To: 4, R: 'a'}, {Kind: token.Start, Name: "p"}, {Kind: -1}} {
		if l := x.Take(one, []byte("a")); len(l) != 0 {
			t.Error(l)
		}
	}
}

func TestText(t *testing.T) { // P23.1
	if s := extract.Text(); s != "" {
		t.Errorf("%q", s)
	}
	for r, want := range map[rune]string{0: "\x00", 'a': "a", 0xe9: "é", 0x20ac: "€", 0x1f600: "😀", 0xfffd: "�", 0x10ffff: "\U0010ffff", -1: "�", 0xd800: "�", 0xdfff: "�", 0x110000: "�", -1 << 31: "�"} {
		if s := extract.Text(extract.Item{R: 'x', At: 9}, extract.Item{R: r, At: -1, Size: 70, Forced: true}, extract.Item{R: '<'}); s != "x"+want+"<" {
			t.Errorf("%x: %q", r, s)
		}
	}
	if s := extract.Text(extract.All([]byte("a<title>b</title>\xf0\x9f&lt;é"))...); s != "a�<é" {
		t.Errorf("%q", s)
	}
}

func TestOwnScalars(t *testing.T) { // P23.3
	rng := rand.New(rand.NewSource(2))
	for range 5000 {
		var b []byte
		for range rng.Intn(30) {
			b = append(b, byte(rng.Intn(256)))
			if rng.Intn(2) == 0 {
				b = append(b, scalar.Put(rune(rng.Intn(0x110000)))...)
			}
		}
		b = slices.DeleteFunc(b, func(c byte) bool { return c == '<' || c == '&' || c == 0x1b })
		var want []extract.Item
		for i, r := range scalar.All(b) {
			starts := append(scalar.Starts(b), len(b))
			want = append(want, extract.Item{R: r, At: starts[i], Size: starts[i+1] - starts[i]})
		}
		told(t, string(b), want...)
	}
}

func TestMemory(t *testing.T) { // arguments aren't kept or changed, answers are new, and extractors don't share anything
	room := []byte("a<br>b<nobr>XYZ")
	l := extract.All(room[:6])
	x, y := extract.New(), extract.New()
	k := x.Take(token.Token{To: 1}, room[:1])
	x.Take(token.Token{Kind: token.Start, Name: "p"}, room[1:5])
	x.Take(token.Token{Kind: token.Start, Name: "pre"}, room[1:5])
	if one := y.Take(token.Token{From: 5, To: 6}, room[5:6]); one[0] != flagged('b', 5, 1, "") {
		t.Error(one)
	}
	if string(room) != "a<br>b<nobr>XYZ" {
		t.Error(string(room))
	}
	clear(room)
	if !slices.Equal(l, []extract.Item{flagged('a', 0, 1, ""), flagged('b', 5, 1, "f")}) || k[0] != flagged('a', 0, 1, "") {
		t.Error(l, k)
	}
	k[0].Forced = true
	_ = append(k, flagged('?', 0, 1, ""))
	if k := x.Take(token.Token{From: 6, To: 8}, []byte("cd")); !slices.Equal(k, []extract.Item{flagged('c', 6, 1, "fp"), flagged('d', 7, 1, "p")}) {
		t.Error(k)
	}
	if s := extract.Text(l[:1]...); s != "a" || l[1] != flagged('b', 5, 1, "f") {
		t.Error(s, l)
	}
}

func TestLong(t *testing.T) { // the time grows with the bytes alone
	for _, piece := range []string{"a", "é", "\xff", "&lt;", "<br>", "<nobr>a", "<title>", "<title>a</title>b", "<script>a</script>", "<", "<b ", "a<wbr>"} {
		s := strings.Repeat(piece, 1<<18/len(piece))
		begun := time.Now()
		l := extract.All([]byte(s))
		extract.Text(l...)
		if took := time.Since(begun); took > 4*time.Second {
			t.Errorf("%q again and again took %v", piece, took)
		}
	}
}
