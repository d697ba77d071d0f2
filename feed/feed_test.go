package feed_test

import (
	"slices"
	"strings"
	"testing"
	"time"

	"virgule/feed"
	"virgule/token"
)

// lines is what tokens are printed as, with a comma and a blank between them.
func lines(l []token.Token) string {
	var out []string
	for _, t := range l {
		out = append(out, token.Print(t))
	}
	return strings.Join(out, ", ")
}

// run is what is answered of each piece, and at the end, with a bar between them.
func run(pieces ...string) string {
	f := feed.New()
	var out []string
	for _, s := range pieces {
		out = append(out, lines(f.Feed([]byte(s))))
	}
	return strings.Join(append(out, lines(f.Close())), " | ")
}

func TestFeed(t *testing.T) { // P20.1, by hand
	for _, x := range []struct {
		want   string
		pieces []string
	}{
		{"", nil},
		{" | ", []string{""}},
		{" | text 0 1, start 1 4 b | ", []string{"a<", "b>"}},
		{" | text 0 2", []string{"a<"}},
		{"text 0 1 | start 1 3 b", []string{"a<b"}},
		{"text 0 1 |  | decl 1 4", []string{"a</", " "}},
		{" |  | end 0 4 b, text 4 5, start 5 8 i | ", []string{"</", "b", ">c<i>"}},
		{" |  | comment 0 8 | text 8 9", []string{"<!", "--x-", "->a"}},
		{" |  |  | start 0 9 b | ", []string{"<b a='", ">", "'", ">"}},
		{" | ref 0 4 U+003C | ", []string{"&lt", ";"}},
		{" | text 0 1, ref 1 6 U+0026 | ", []string{"a&am", "p;"}},
		{" |  | text 0 10, ref 10 20 U+10FFFF | ", []string{"aaaaaaaaaa", "&#x10ffff", ";"}},
		{"text 0 1 |  | escape 1 5 | text 5 6", []string{"a\x1b", "[1", "ma"}},
		{" | escape 0 1 | text 1 2", []string{"\x1b", "a"}},
		{" | escape 0 3, escape 3 5 | ", []string{"\x1b[1", "\x1bM"}},
		{"start 0 8 script |  |  | raw 8 17, end 17 27 script | ", []string{"<script>", "</scripta", "</script", " >"}},
		{"start 0 8 script, raw 8 9 | end 9 20 script | ", []string{"<script>a</script x", ">"}},
		{"start 0 8 script | raw 8 9, end 9 17 script", []string{"<script>a</script"}},
		{"start 0 8 script | end 8 16 script", []string{"<script></script"}},
		{"start 0 8 script |  | raw 8 17", []string{"<script></script", "x"}},
		{"start 0 7 style |  |  | end 7 15 style, text 15 16, start 16 19 b | ", []string{"<style>", "</", "style", ">a<b>"}},
		{"start 0 10 script / | text 10 11, start 11 14 b | ", []string{"<script />", "a<b>"}},
	} {
		if got := run(x.pieces...); got != x.want {
			t.Errorf("%q: %s, not %s", x.pieces, got, x.want)
		}
	}
}

func TestClosed(t *testing.T) { // P20.1, P20.2
	f := feed.New()
	f.Feed([]byte("<b>a"))
	l := f.Close()
	if lines(l) != "text 3 4" || f.Waits() != 0 || f.Fed() != 4 {
		t.Fatal(l, f.Waits(), f.Fed())
	}
	for _, s := range []string{"", "a", "<b>", "&lt;"} {
		if l := f.Feed([]byte(s)); len(l) != 0 || f.Waits() != 0 || f.Fed() != 4 {
			t.Fatal(s, l, f.Waits(), f.Fed())
		}
		if l := f.Close(); len(l) != 0 || f.Waits() != 0 || f.Fed() != 4 {
			t.Fatal(s, l, f.Waits(), f.Fed())
		}
		if got := f.Bytes(l[0]); string(got) != "a" {
			t.Fatalf("%q: Bytes %q", s, got)
		}
	}
	g := feed.New()
	if l := g.Close(); len(l) != 0 || g.Waits() != 0 || g.Fed() != 0 || len(g.Feed([]byte("<b>"))) != 0 || g.Fed() != 0 {
		t.Fatal("closed without bytes", l, g.Fed())
	}
}

func TestBytes(t *testing.T) { // P20.2: only of the last answer
	f := feed.New()
	first := f.Feed([]byte("a<b>c&lt;d"))
	if lines(first) != "text 0 1, start 1 4 b, text 4 5, ref 5 9 U+003C" {
		t.Fatal(lines(first))
	}
	for from := -2; from <= 12; from++ {
		for to := -2; to <= 12; to++ {
			want := ""
			for _, x := range first {
				if x.From == from && x.To == to {
					want = "a<b>c&lt;d"[from:to]
				}
			}
			if got := f.Bytes(token.Token{From: from, To: to}); string(got) != want {
				t.Errorf("Bytes of %d %d: %q, not %q", from, to, got, want)
			}
		}
	}
	second := f.Feed([]byte("<i>"))
	if lines(second) != "text 9 10, start 10 13 i" || string(f.Bytes(second[0])) != "d" || string(f.Bytes(second[1])) != "<i>" {
		t.Fatal(lines(second))
	}
	for _, x := range append(first, token.Token{From: 9, To: 13}, token.Token{From: -1 << 63, To: 1<<63 - 1}) {
		if got := f.Bytes(x); got != nil {
			t.Errorf("Bytes of %+v: %q", x, got)
		}
	}
	f.Feed(nil)
	if got := f.Bytes(second[0]); got != nil {
		t.Errorf("Bytes after an answer without tokens: %q", got)
	}
	f.Feed([]byte("<i"))
	if got := f.Bytes(token.Token{Kind: token.Start, From: 13, To: 15}); got != nil {
		t.Errorf("Bytes of what waits: %q", got)
	}
}

func TestNil(t *testing.T) { // P20.2
	var f *feed.Feeder
	if f.Feed([]byte("<b>")) != nil || f.Close() != nil || f.Waits() != 0 || f.Fed() != 0 || f.Bytes(token.Token{}) != nil || f.Bytes(token.Token{To: 1}) != nil {
		t.Error("a nil feeder")
	}
	g := feed.New()
	if g == nil || g.Waits() != 0 || g.Fed() != 0 || g.Bytes(token.Token{}) != nil || g.Bytes(token.Token{From: 5, To: 1}) != nil {
		t.Error("a new feeder")
	}
}

func TestMemory(t *testing.T) { // pieces aren't kept or changed, and answers are new
	f := feed.New()
	room := []byte("a<b>c<iXYZ")
	l := f.Feed(room[:7])
	if string(room) != "a<b>c<iXYZ" || lines(l) != "text 0 1, start 1 4 b, text 4 5" {
		t.Fatal(string(room), lines(l))
	}
	for i := range room {
		room[i] = '?'
	}
	got := f.Bytes(l[1])
	got[0] = '!'
	_ = append(got[:1], "!!!!!!!!"...)
	keep := slices.Clone(l)
	clear(l)
	for _, x := range keep {
		if s := string(f.Bytes(x)); s != "a<b>c"[x.From:x.To] {
			t.Errorf("%+v: %q", x, s)
		}
	}
	_ = append(l, token.Token{Kind: token.Raw})
	if l := f.Feed([]byte(">")); lines(l) != "start 5 8 i" || string(f.Bytes(l[0])) != "<i>" {
		t.Error(lines(l), string(f.Bytes(l[0])))
	}
}

func TestApart(t *testing.T) { // feeders don't share anything
	f, g := feed.New(), feed.New()
	f.Feed([]byte("<script>a"))
	g.Feed([]byte("<!--"))
	if l := g.Feed([]byte("-->b<i>")); lines(l) != "comment 0 7, text 7 8, start 8 11 i" {
		t.Error(lines(l))
	}
	if l := f.Feed([]byte("</script>")); lines(l) != "raw 8 9, end 9 18 script" {
		t.Error(lines(l))
	}
}

// quick has that a text is split in little time, in pieces of each of some sizes.
func quick(t *testing.T, name, s string) {
	t.Helper()
	want := token.All([]byte(s))
	for _, size := range []int{1, 5, 1000} {
		f := feed.New()
		var got []token.Token
		begun := time.Now()
		for at := 0; at < len(s); at += size {
			l := f.Feed([]byte(s[at:min(at+size, len(s))]))
			for _, x := range l {
				f.Bytes(x)
			}
			got = append(got, l...)
		}
		got = append(got, f.Close()...)
		if took := time.Since(begun); took > 4*time.Second {
			t.Errorf("%s in pieces of %d took %v", name, size, took)
		}
		if !slices.Equal(got, want) {
			t.Errorf("%s in pieces of %d: other tokens", name, size)
		}
	}
}

func TestLong(t *testing.T) { // the time grows with the bytes alone
	const many = 1 << 18
	for _, x := range [][3]string{
		{"a text", "", "a"}, {"a text behind an &", "&", "a"}, {"ands", "", "&"}, {"less", "", "<"},
		{"a name", "<", "a"}, {"blanks", "<b", " "}, {"attributes", "<b", " a"}, {"a value", "<b a=\"", "'>"},
		{"values", "<b", " a='>'"}, {"values of two kinds", "<b", " a='\">'b=\"'>\""}, {"slashes", "</b", "/"}, {"a comment", "<!--", "->"}, {"a comment of dashes", "<!--", "-"},
		{"a declaration", "<!", "-"}, {"an escape", "\x1b[", "1"}, {"an escape in its end", "\x1b[1", " "}, {"escapes", "", "\x1b"},
		{"raw bytes", "<script>", "a"}, {"raw bytes of ends", "<style>", "</style"}, {"raw bytes behind nothing", "<script>", "<"},
		{"tags", "", "<b>"}, {"many kinds", "", "a<b>&lt;</b>\x1b[m<!---->"}, {"scripts", "", "<script>a</script>"}, {"scripts without ends", "", "<script>"},
	} {
		quick(t, x[0], x[1]+strings.Repeat(x[2], many/len(x[2])))
		quick(t, x[0], x[1]+strings.Repeat(x[2], many/len(x[2]))+"\x00'\">--></style>m<b>")
	}
	long := strings.Repeat("a", many/2)
	quick(t, "a long name and as long a text", "<"+long+">"+long)
	quick(t, "a long name and its end", "<"+long+"></"+long+"b>"+long)
}

func TestEmptyPieces(t *testing.T) { // the time doesn't grow with the bytes when there are no new ones
	f := feed.New()
	f.Feed([]byte("<" + strings.Repeat("a", 1<<18) + ">"))
	begun := time.Now()
	for range 1 << 18 {
		if l := f.Feed(nil); len(l) != 0 {
			t.Fatal(lines(l))
		}
	}
	if took := time.Since(begun); took > 4*time.Second {
		t.Errorf("empty pieces took %v", took)
	}
}
