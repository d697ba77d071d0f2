package flat_test

import (
	"math"
	"math/rand"
	"slices"
	"strings"
	"testing"
	"time"

	"virgule/extract"
	"virgule/flat"
)

func TestShort(t *testing.T) { // P24.1, P24.2, P24.3, for all short texts of some pieces
	for _, s := range texts(3, "a", "é", "\xf0\x9f", "\xff", "<b>", "</p>", "<br>", "<wbr/>", "<nobr>", "<pre>", "<title>", "</title>", "<script>", "</script>", "&lt;", "&#0;", "<!---->", "\x1b[m", "<", "&") {
		hold(t, s)
	}
	for _, s := range texts(5, "a", "é", "&lt;", "<b>") {
		hold(t, s)
	}
}

func TestEachByte(t *testing.T) { // P24.1, P24.2, P24.3, for every byte
	for c := range 256 {
		s := string([]byte{byte(c)})
		for _, ahead := range []string{"", "a", "<b>", "\xf0\x9f"} {
			for _, behind := range []string{"", "a", "</b>", "\x98"} {
				hold(t, ahead+s+behind)
			}
		}
	}
}

func TestPieces(t *testing.T) { // P24.1, P24.2, P24.3, for many tokens behind one another, and damaged ones
	some := []string{"a", "b c", "é", "\xf0\x9f", "<", "/", "&", "<b>", "</b>", "<BR a='1>2'>", "<p>", "<wbr>", "<nobr>", "</nobr>", "<pre>", "<title>", "</title>", "<!--x-->", "<?a?>", "&amp;", "&#x1f600;", "&lt", "\x1b[31m", "<script>", "</script>"}
	rng := rand.New(rand.NewSource(1))
	for range 3000 {
		var b []byte
		for range rng.Intn(20) {
			b = append(b, some[rng.Intn(len(some))]...)
			if rng.Intn(9) == 0 {
				b[rng.Intn(len(b))] = byte(rng.Intn(256))
			}
		}
		hold(t, string(b))
	}
}

func TestItems(t *testing.T) { // P24.1, by hand
	f := flat.New([]byte("<p>a<b>&#x20ac;<title>t</title>\xf0\x9f<!--x-->"))
	want := []extract.Item{{R: 'a', At: 3, Size: 1, Forced: true}, {R: 0x20ac, At: 7, Size: 8}, {R: 0xfffd, At: 31, Size: 2}}
	if f.Len() != 3 || f.Size() != 41 || f.Text() != "a€�" || !slices.Equal(f.Items(), want) {
		t.Fatal(f.Len(), f.Size(), f.Text(), f.Items())
	}
	for i, one := range want {
		if x, ok := f.Item(i); x != one || !ok {
			t.Error(i, x, ok)
		}
	}
	for _, i := range []int{math.MinInt, -1, 3, 41, math.MaxInt} {
		if x, ok := f.Item(i); x != (extract.Item{}) || ok {
			t.Error(i, x, ok)
		}
	}
}

// told holds the raw offsets, and the plain positions from 0 on, against those written out by hand.
func told(t *testing.T, s string, raw, plain []int) {
	t.Helper()
	f := flat.New([]byte(s))
	for i, want := range raw {
		if at, ok := f.Raw(i); at != want || !ok {
			t.Errorf("%q: Raw(%d): %d, %v", s, i, at, ok)
		}
	}
	for at, want := range plain {
		if i, ok := f.Plain(at); i != want || !ok {
			t.Errorf("%q: Plain(%d): %d, %v", s, at, i, ok)
		}
	}
	for _, i := range []int{math.MinInt, -1, len(raw), math.MaxInt} {
		if at, ok := f.Raw(i); at != 0 || ok {
			t.Errorf("%q: Raw(%d): %d, %v", s, i, at, ok)
		}
	}
	for _, at := range []int{math.MinInt, -1, len(plain), math.MaxInt} {
		if i, ok := f.Plain(at); i != 0 || ok {
			t.Errorf("%q: Plain(%d): %d, %v", s, at, i, ok)
		}
	}
}

func TestPlaces(t *testing.T) { // P24.2, P24.3, by hand
	told(t, "a<b>c", []int{0, 4, 5}, []int{0, 1, 1, 1, 1, 2})
	told(t, "abc", []int{0, 1, 2, 3}, []int{0, 1, 2, 3})
	told(t, "<b>a", []int{0, 4}, []int{0, 1, 1, 1, 1})
	told(t, "a<b>", []int{0, 4}, []int{0, 1, 1, 1, 1})
	told(t, "<i>a<b>c</b>", []int{0, 7, 12}, []int{0, 1, 1, 1, 1, 1, 1, 1, 2, 2, 2, 2, 2})
	told(t, "é&lt;x", []int{0, 2, 6, 7}, []int{0, 1, 1, 2, 2, 2, 2, 3})
	told(t, "\xf0\x9f\x98", []int{0, 3}, []int{0, 1, 1, 1})
	told(t, "<script>a</script>b\x1b[m", []int{0, 22}, append([]int{0}, slices.Repeat([]int{1}, 22)...))
}

func TestNoItems(t *testing.T) { // P24.1, P24.2, P24.3
	told(t, "", []int{0}, []int{0})
	told(t, "<b>", []int{0}, []int{0, 0, 0, 0})
	told(t, "<title>abc", []int{0}, make([]int, 11))
	for _, s := range []string{"", "<b>", "<title>abc", "\x1b[m"} {
		f := flat.New([]byte(s))
		if f.Len() != 0 || f.Size() != len(s) || f.Text() != "" || len(f.Items()) != 0 || len(f.Slice(0, 0)) != 0 || len(f.Slice(0, 1)) != 0 {
			t.Errorf("%q: %d, %d, %q, %v", s, f.Len(), f.Size(), f.Text(), f.Items())
		}
		if x, ok := f.Item(0); x != (extract.Item{}) || ok {
			t.Error(s, x, ok)
		}
	}
	if f := flat.New(nil); f == nil || f.Len() != 0 || f.Size() != 0 {
		t.Error("no bytes")
	} else if at, ok := f.Raw(0); at != 0 || !ok {
		t.Error("no bytes:", at, ok)
	}
}

func TestSlice(t *testing.T) { // P24.2, by hand
	f := flat.New([]byte("<p>a<b>&lt;é</b>"))
	for _, x := range []struct {
		from, to int
		want     string
	}{
		{0, 1, "<p>a<b>"}, {1, 2, "&lt;"}, {2, 3, "é</b>"},
		{0, 2, "<p>a<b>&lt;"}, {1, 3, "&lt;é</b>"}, {0, 3, "<p>a<b>&lt;é</b>"},
		{0, 0, ""}, {1, 1, ""}, {3, 3, ""}, {1, 0, ""}, {3, 0, ""}, {3, 2, ""},
		{-1, 1, ""}, {-1, -1, ""}, {0, 4, ""}, {4, 4, ""}, {4, 0, ""}, {2, -1, ""}, {3, 5, ""},
		{math.MinInt, math.MaxInt, ""}, {0, math.MaxInt, ""}, {math.MinInt, 3, ""}, {math.MaxInt, math.MinInt, ""},
	} {
		if got := f.Slice(x.from, x.to); string(got) != x.want {
			t.Errorf("%d to %d: %q", x.from, x.to, got)
		}
	}
}

func TestNil(t *testing.T) { // P24.2
	var f *flat.Flat
	if f.Len() != 0 || f.Size() != 0 || f.Text() != "" || len(f.Items()) != 0 {
		t.Error(f.Len(), f.Size(), f.Text(), f.Items())
	}
	for _, i := range []int{math.MinInt, -1, 0, 1, math.MaxInt} {
		if x, ok := f.Item(i); x != (extract.Item{}) || ok {
			t.Error("Item", i, x, ok)
		}
		if at, ok := f.Raw(i); at != 0 || ok {
			t.Error("Raw", i, at, ok)
		}
		if n, ok := f.Plain(i); n != 0 || ok {
			t.Error("Plain", i, n, ok)
		}
		if b := f.Slice(0, i); len(b) != 0 {
			t.Error("Slice", i, b)
		}
	}
}

func TestMemory(t *testing.T) { // arguments aren't kept or changed, and answers are new
	room := []byte("a<br>&lt;XYZ")
	f := flat.New(room[:9])
	if string(room) != "a<br>&lt;XYZ" {
		t.Errorf("%q", room)
	}
	clear(room)
	for range 2 { // the second time behind changes of what was answered the first time
		l, b := f.Items(), f.Slice(0, 1)
		x, ok := f.Item(1)
		if !slices.Equal(l, []extract.Item{{R: 'a', Size: 1}, {R: '<', At: 5, Size: 4, Forced: true}}) || string(b) != "a<br>" || x != l[1] || !ok {
			t.Fatal(l, b, x, ok)
		}
		if f.Text() != "a<" || string(f.Slice(0, 2)) != "a<br>&lt;" || string(f.Slice(1, 2)) != "&lt;" {
			t.Fatal(f.Text(), f.Slice(0, 2))
		}
		if at, ok := f.Raw(1); at != 5 || !ok {
			t.Fatal(at, ok)
		}
		clear(l[:cap(l)])
		clear(b[:cap(b)])
		_ = append(f.Slice(0, 0), "???"...)
		_ = append(f.Slice(0, 1), "???"...)
	}
	if g := flat.New([]byte("b")); g.Text() != "b" || f.Text() != "a<" {
		t.Error(g.Text(), f.Text())
	}
}

func TestLong(t *testing.T) { // places of long texts are found in no time, wherever they are
	for _, piece := range []string{"a", "é", "&lt;", "<b>a", "<b>"} {
		s := strings.Repeat(piece, 1<<18/len(piece))
		f := flat.New([]byte(s))
		begun := time.Now()
		for at := range f.Size() + 1 {
			i, _ := f.Plain(at)
			if raw, _ := f.Raw(i); f.Len() > 0 && raw < at {
				t.Fatal(piece, at, i, raw)
			}
		}
		for i := range f.Len() {
			f.Item(i)
			f.Slice(i, i+1)
		}
		if took := time.Since(begun); took > 4*time.Second {
			t.Errorf("%q again and again took %v", piece, took)
		}
	}
}
