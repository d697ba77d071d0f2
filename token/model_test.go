package token_test

import (
	"math/rand"
	"regexp"
	"slices"
	"strings"
	"testing"

	"virgule/ansi"
	"virgule/entity"
	"virgule/tag"
	"virgule/token"
)

// rawEnds has, for each name of a tag that raw bytes follow, what they end before.
func rawEnds() map[string]*regexp.Regexp {
	return map[string]*regexp.Regexp{
		"script": regexp.MustCompile(`</[sS][cC][rR][iI][pP][tT](?:[\x09\x0a\x0c\x0d\x20/>]|\z)`),
		"style":  regexp.MustCompile(`</[sS][tT][yY][lL][eE](?:[\x09\x0a\x0c\x0d\x20/>]|\z)`),
	}
}

// model cuts bytes by the chapter's words; what begins a token is known from the layers below.
type model struct {
	rawEnds map[string]*regexp.Regexp
	b       []byte
	out     []token.Token
}

// begins is the token that begins at a place and is no text and no raw bytes, and whether bytes behind it may be raw.
func (m *model) begins(at int) (x token.Token, raw bool) {
	t, isTag := tag.Read(m.b, at)
	r, ref := entity.Read(m.b, at)
	escape := ansi.Read(m.b, at)
	x = token.Token{From: at, To: at + t.Size + ref + escape.Size}
	switch {
	case ref > 0:
		x.Kind, x.R = token.Ref, r
	case escape.Size > 0:
		x.Kind = token.Escape
	case isTag && t.Kind == tag.Start:
		x.Kind, x.Name, x.Single = token.Start, t.Name, t.Single
		return x, t.Closed && !t.Single
	case isTag && t.Kind == tag.End:
		x.Kind, x.Name, x.Single = token.End, t.Name, t.Single
	case isTag && t.Kind == tag.Comment:
		x.Kind = token.Comment
	case isTag && t.Kind == tag.Decl:
		x.Kind = token.Decl
	}
	return x, false
}

// next is the next offset from at on at which a token begins that is no text, or the end.
func (m *model) next(at int) int {
	for ; at < len(m.b); at++ {
		if x, _ := m.begins(at); x.To > at {
			break
		}
	}
	return at
}

// rawEnd is the first offset from at on before which raw bytes of a name end, or the end.
func (m *model) rawEnd(at int, name string) int {
	if i := m.rawEnds[name].FindIndex(m.b[at:]); i != nil {
		return at + i[0]
	}
	return len(m.b)
}

// tokens is all tokens of b.
func (m *model) tokens(b []byte) []token.Token {
	m.b, m.out = b, nil
	for at := 0; at < len(b); {
		x, raw := m.begins(at)
		if x.To == at {
			x = token.Token{Kind: token.Text, From: at, To: m.next(at)}
		}
		m.out, at = append(m.out, x), x.To
		if raw && m.rawEnds[x.Name] != nil {
			if end := m.rawEnd(at, x.Name); end > at {
				m.out, at = append(m.out, token.Token{Kind: token.Raw, From: at, To: end}), end
			}
		}
	}
	return m.out
}

// hold holds the tokens of s, and that of each byte, against the model.
func (m *model) hold(t *testing.T, s string) {
	t.Helper()
	got, want := token.All([]byte(s)), m.tokens([]byte(s))
	if !slices.Equal(got, want) {
		t.Fatalf("All(%q): %+v, not %+v", s, got, want)
	}
	cover(t, s, got)
	for _, x := range want {
		for at := x.From; at < x.To; at++ {
			if got, ok := token.At([]byte(s), at); got != x || !ok {
				t.Fatalf("At(%q, %d): %+v, %v, not %+v", s, at, got, ok, x)
			}
		}
	}
	holdNone(t, s, -1, len(s))
}

// cover has that tokens have bytes, and are all of them, one behind the other.
func cover(t *testing.T, s string, l []token.Token) { // P19.3
	t.Helper()
	at := 0
	for i, x := range l {
		if x.From != at || x.To <= at {
			t.Fatalf("%q: the token %+v at %d", s, x, at)
		}
		if i > 0 && x.Kind == token.Text && l[i-1].Kind == token.Text {
			t.Fatalf("%q: two texts at %d", s, at)
		}
		at = x.To
	}
	if at != len(s) {
		t.Fatalf("%q: tokens up to %d of %d bytes", s, at, len(s))
	}
}

// holdNone has that there is no token at some offsets.
func holdNone(t *testing.T, s string, offsets ...int) {
	t.Helper()
	for _, at := range offsets {
		if x, ok := token.At([]byte(s), at); ok || x != (token.Token{}) {
			t.Fatalf("At(%q, %d): %+v, %v", s, at, x, ok)
		}
	}
}

// texts is all texts of up to so many of some pieces.
func texts(most int, pieces ...string) []string {
	out := []string{""}
	for last := out; most > 0; most-- {
		var longer []string
		for _, s := range last {
			for _, p := range pieces {
				longer = append(longer, s+p)
			}
		}
		out, last = append(out, longer...), longer
	}
	return out
}

// raws is beginnings behind which bytes are raw, and some behind which they are not.
func raws() []string {
	return []string{"<script>", "<STYLE>", "<Style a='>' b/c >", "a<sCRIPT\n=x>", "<script/>", "<style a />", "<script", "</script>", "<scripts>", "<b>"}
}

func TestShort(t *testing.T) { // P19.1, P19.3, for all short texts
	m := &model{rawEnds: rawEnds()}
	for _, s := range texts(4, strings.Split("<>/!-&;#0ab\x1b[ \xff", "")...) {
		m.hold(t, s)
	}
	for _, s := range texts(3, "<", "</", ">", "/", "b", "<b>", "<!", "<!--", "-->", "?", "&", "lt", ";", "&#", "&lt;", "\x1b", "[", "\x1b[1m", "1", "é", "\xc3", "<script>", "</script>", "</style", "\n") {
		m.hold(t, s)
	}
}

func TestRawShort(t *testing.T) { // P19.1, P19.3, for all short texts behind what begins raw bytes
	m := &model{rawEnds: rawEnds()}
	for _, tail := range texts(3, "<", "</", "/", ">", " ", "\v", "script", "SCRIPT", "Style", "</script", "</sTYLe>", "<script>", "ſ", "x", "&lt;", "\x1b[m", "<!--", "-->", "\"") {
		for _, head := range raws() {
			m.hold(t, head+tail)
		}
	}
}

func TestEachByte(t *testing.T) { // P19.1, P19.3, for every byte at every place
	m := &model{rawEnds: rawEnds()}
	for c := range 256 {
		b := string([]byte{byte(c)})
		for _, head := range append(raws(), "", "<", "</", "&", "&lt", "&#1", "&#x", "\x1b", "\x1b[", "\x1b[1", "<!--", "<!", "</b", "<b a") {
			for _, tail := range []string{"", ">a", ";a", "m", "<b>", "&gt;", "\x1bM", "</script>", "</script", "</style>", "-->"} {
				m.hold(t, head+b+tail)
				m.hold(t, head+"</script"+b+tail)
				m.hold(t, head+"x</STYL"+b+tail)
			}
		}
	}
}

func TestPieces(t *testing.T) { // P19.1, P19.3, for many tokens behind one another, and damaged ones
	m := &model{rawEnds: rawEnds()}
	pieces := []string{"a", "b c", "é", "\xf0\x9f", "<", ">", "/", "&", ";", "<b>", "</b>", "<br/>", "<B a='1>2' />", "<!--x-->", "<!doctype>", "<?a?>", "&amp;", "&#65;", "&#x0;", "&lt", "\x1b[31m", "\x1bM", "\x1b", "\x1b[", "<script>", "<style x>", "</script>", "</STYLE >", "</script", "</styles>", "<script/>", "<!--", "\""}
	rng := rand.New(rand.NewSource(1))
	for range 60000 {
		var b []byte
		for range rng.Intn(14) {
			b = append(b, pieces[rng.Intn(len(pieces))]...)
			if rng.Intn(6) == 0 {
				b[rng.Intn(len(b))] = byte(rng.Intn(256))
			}
		}
		m.hold(t, string(b))
	}
}
