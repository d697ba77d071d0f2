package feed_test

import (
	"math/rand"
	"slices"
	"strings"
	"testing"

	"virgule/ansi"
	"virgule/feed"
	"virgule/tag"
	"virgule/token"
)

// model answers by the chapter's words: it reads all bytes anew at each piece.
type model struct {
	b      []byte
	told   int
	last   []token.Token
	closed bool
}

// settled tells whether the token at a place of all is settled.
func (m *model) settled(l []token.Token, i int) bool {
	switch t := l[i]; t.Kind {
	case token.Ref:
		return true
	case token.Text:
		return i+1 < len(l)
	case token.Raw:
		return i+1 < len(l) && l[i+1].Kind == token.End && l[i+1].To-l[i+1].From > len("</")+len(l[i+1].Name)
	case token.Escape:
		return !ansi.Read(m.b, t.From).Open
	default:
		x, _ := tag.Read(m.b, t.From)
		return x.Closed
	}
}

// feed is what is told of one piece more.
func (m *model) feed(s string) []token.Token {
	m.b = append(m.b, s...)
	l := token.All(m.b)
	from := m.told
	for m.told < len(l) && m.settled(l, m.told) {
		m.told++
	}
	m.last = l[from:m.told]
	return m.last
}

// close is what is told at the end.
func (m *model) close() []token.Token {
	m.last, m.closed = token.All(m.b)[m.told:], true
	m.told += len(m.last)
	return m.last
}

// waits is how many bytes nothing was told of.
func (m *model) waits() int {
	l := token.All(m.b)
	if m.told < len(l) {
		return len(m.b) - l[m.told].From
	}
	return 0
}

// hold holds what a feeder has answered, and what it tells of itself, against the model.
func (m *model) hold(t *testing.T, f *feed.Feeder, got, want []token.Token) {
	t.Helper()
	if !slices.Equal(got, want) {
		t.Fatalf("%q: %+v, not %+v", m.b, got, want)
	}
	if f.Waits() != m.waits() || f.Fed() != len(m.b) {
		t.Fatalf("%q: waits %d, not %d; fed %d, not %d", m.b, f.Waits(), m.waits(), f.Fed(), len(m.b))
	}
	for _, x := range want {
		if got := f.Bytes(x); string(got) != string(m.b[x.From:x.To]) {
			t.Fatalf("%q: bytes of %+v: %q", m.b, x, got)
		}
	}
}

// pieces holds a feeder of some pieces against the model.
func pieces(t *testing.T, l ...string) {
	t.Helper()
	f, m := feed.New(), &model{}
	var all []token.Token
	for _, s := range l {
		got := f.Feed([]byte(s))
		m.hold(t, f, got, m.feed(s))
		all = append(all, got...)
	}
	got := f.Close()
	m.hold(t, f, got, m.close())
	all = append(all, got...)
	if !slices.Equal(all, token.All([]byte(strings.Join(l, "")))) { // P20.3
		t.Fatalf("%q: %+v", l, all)
	}
}

// cuts is the pieces of a text that is cut behind each byte whose bit is set.
func cuts(s string, bits int) []string {
	var out []string
	from := 0
	for i := range len(s) {
		if bits>>i&1 == 1 {
			out, from = append(out, s[from:i+1]), i+1
		}
	}
	return append(out, s[from:])
}

// allCuts holds all ways to cut a text against the model.
func allCuts(t *testing.T, s string) {
	t.Helper()
	for bits := range 1 << max(0, len(s)-1) {
		pieces(t, cuts(s, bits)...)
	}
}

// someCuts holds a text in bytes, whole, in two pieces, and cut at some places by chance, against the model.
func someCuts(t *testing.T, rng *rand.Rand, s string) {
	t.Helper()
	pieces(t, strings.Split(s, "")...)
	pieces(t, s)
	for i := range len(s) {
		pieces(t, s[:i], s[i:])
	}
	for range 3 {
		var l []string
		for rest := s; rest != ""; {
			n := min(len(rest), rng.Intn(9))
			l, rest = append(l, rest[:n]), rest[n:]
		}
		pieces(t, l...)
	}
}

// texts is all texts of up to so many of some pieces.
func texts(most int, pieces ...string) []string {
	out := []string{""}
	for last := out; most > 0; most-- {
		var longer []string
		for _, s := range last {
			for _, p := range pieces {
				longer = append(longer, s+p)
			}
		}
		out, last = append(out, longer...), longer
	}
	return out
}

func TestShort(t *testing.T) { // P20.1, P20.2, P20.3, for all short texts, cut in all ways
	for _, s := range texts(4, strings.Split("<>/!-a&\x1b[", "")...) {
		allCuts(t, s)
	}
	for _, s := range texts(6, "<", ">", "!", "-") {
		allCuts(t, s)
	}
	for _, s := range texts(3, "<b", "<!--", "</", "'", "\"", "=", " ", ">", "&lt", ";", "\x1b[", "1", "m", "a") {
		allCuts(t, s)
	}
}

func TestShortPieces(t *testing.T) { // P20.1, P20.2, P20.3, for all short lists of pieces
	rng := rand.New(rand.NewSource(1))
	for _, s := range texts(3, "<b", "<b>", "</b", "<!--", "->", "a='", "'", "\"", ">", "/", "a&amp;", "\x1b[1", "<script>", "</script") {
		someCuts(t, rng, s)
	}
}

func TestTags(t *testing.T) { // P20.1, P20.3, what closes a tag
	for _, head := range []string{"<b", "<b ", "<b/", "<b a", "<b a ", "<b a=", "<b a= ", "<b a=x", "<b a=\"", "<b a='", "<b a=''", "</b", "</b a='", "<", "</", "<!", "<!-", "<!--", "<?"} {
		for _, s := range texts(4, strings.Split("a =\"'/>", "")...) {
			pieces(t, append([]string{head}, strings.Split(s, "")...)...)
			pieces(t, head+s, ">", "'>", "\">", ">>")
		}
	}
}

func TestComments(t *testing.T) { // P20.1, P20.3, what closes a comment or a declaration
	for _, head := range []string{"<!", "<!-", "<!--", "<!-->", "<!--->", "<!---->", "<!--a", "<!--a-", "<!--a--", "<?", "</", "</ ", "</-"} {
		for _, s := range texts(6, "-", ">", "a") {
			pieces(t, append([]string{head}, strings.Split(s, "")...)...)
			pieces(t, cuts(head+s, 0xaaaaaaaa)...)
		}
	}
}

func TestRawShort(t *testing.T) { // P20.1, P20.3, what is raw, and what ends it
	rng := rand.New(rand.NewSource(2))
	for _, head := range []string{"<script>", "a<STYLE x='>'>", "<script/>", "<b>", "<scripts>", "<script", "</script>"} {
		for _, s := range texts(3, "<", "</", "/", ">", " ", "s", "</script", "</STYLE", "</b", "</bb", "<script>", "<!--", "&lt;", "\x1b[") {
			pieces(t, append([]string{head}, strings.Split(s, "")...)...)
			someCuts(t, rng, head+s)
		}
	}
}

func TestEscapes(t *testing.T) { // P20.1, P20.3, what ends an escape
	for _, s := range texts(5, "\x1b", "[", "1", ";", " ", "/", "m", "\x7f", "<") {
		pieces(t, strings.Split("\x1b"+s, "")...)
		pieces(t, append([]string{"\x1b[1"}, strings.Split(s, "")...)...)
		pieces(t, "a\x1b["+s, "1", " ", "1m")
	}
}

func TestReferences(t *testing.T) { // P20.1, P20.3, that no text before a reference is answered too early or too late
	for _, ref := range []string{"&lt;", "&thinsp;", "&#1234567;", "&#x10ffff;", "&#12345678;", "&#x10ffff0;", "&thinspa", "&&&&&&&&&lt;"} {
		for _, head := range []string{"", "a", "aaaaaaaaaaaaaaaaaaaaaaaaaaa", "<b>", "<script>", "\x1b[m", "&gt;&"} {
			for n := range len(ref) {
				pieces(t, append(strings.Split(head+ref[:n], ""), ref[n:])...)
				pieces(t, head+ref[:n], ref[n:], "b", "c<")
				pieces(t, head, ref[:n], "<", ref[n:])
			}
			pieces(t, strings.Split(head+ref+"<i>"+ref, "")...)
		}
	}
}

func TestEachByte(t *testing.T) { // P20.1, P20.3, for every byte at every place
	for c := range 256 {
		b := string([]byte{byte(c)})
		for _, head := range []string{"", "a", "<", "</", "<!", "<!-", "<!--", "<!--x--", "<b", "<b ", "<b a=", "<b a='", "</b", "&", "&lt", "&#", "\x1b", "\x1b[", "\x1b[1", "\x1b[ ", "<script>", "<script>a<", "<script>a</script", "<style></style", "<b></b"} {
			for _, tail := range []string{"", ">", ";", "m", "'>", "-->", "a<b>", "</style x", "</script>"} {
				pieces(t, head, b, tail)
				pieces(t, head+b, tail)
				pieces(t, strings.Split(head+b+tail, "")...)
			}
		}
	}
}

func TestPieces(t *testing.T) { // P20.1, P20.2, P20.3, for many tokens behind one another, and damaged ones
	some := []string{"a", "b c", "é", "\xf0\x9f", "<", ">", "/", "&", ";", "<b>", "</b>", "<br/>", "<B a='1>2' />", "<b a=\">", "<!--x-->", "<!doctype>", "<?a?>", "&amp;", "&#65;", "&#x0;", "&lt", "\x1b[31m", "\x1bM", "\x1b", "\x1b[", "<script>", "<style x>", "</script>", "</STYLE >", "</script", "</styles>", "<script/>", "<!--", "\"", "-->"}
	rng := rand.New(rand.NewSource(3))
	for range 2000 {
		var b []byte
		for range rng.Intn(14) {
			b = append(b, some[rng.Intn(len(some))]...)
			if rng.Intn(6) == 0 {
				b[rng.Intn(len(b))] = byte(rng.Intn(256))
			}
		}
		someCuts(t, rng, string(b))
	}
}
