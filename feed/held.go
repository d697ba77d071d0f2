package feed

import (
	"slices"

	"virgule/ansi"
	"virgule/tag"
	"virgule/token"
)

// back is how many of the last bytes may begin a token yet when others follow.
// The longest that bytes behind it are needed for is a reference without its end;
// an end tag of raw bytes without the byte behind its name is shorter.
const back = 9

// held is the bytes whose tokens haven't been answered, and what is known of them.
type held struct {
	bytes []byte
	from  int    // where they begin in all bytes
	tag   string // a start tag that they are read behind, if they may be raw bytes
	kind  int    // what they begin with
	skip  int    // how many of them, in a text or raw bytes, needn't be read again
	construct
}

// tokens is the tokens of the held bytes.
func (h *held) tokens() []token.Token {
	l := token.All(slices.Concat([]byte(h.tag), h.bytes[h.skip:]))
	if h.tag != "" {
		l = l[1:]
	}
	for i := range l {
		l[i].From += h.from + h.skip - len(h.tag)
		l[i].To += h.from + h.skip - len(h.tag)
	}
	switch {
	case h.skip == 0:
		return l
	case l[0].Kind == h.kind:
		l[0].From = h.from
		return l
	}
	return slices.Insert(l, 0, token.Token{Kind: h.kind, From: h.from, To: h.from + h.skip})
}

// settled is how many of the tokens of the held bytes are settled.
func (h *held) settled(l []token.Token) int {
	n := len(l)
	if n == 0 || h.settles(l[n-1]) {
		return n
	}
	n--
	if n > 0 && l[n-1].Kind == token.Raw && endsInName(l[n]) {
		n--
	}
	return n
}

// settles tells whether the last token is settled.
func (h *held) settles(t token.Token) bool {
	switch at := t.From - h.from; t.Kind {
	case token.Text, token.Raw:
		return false
	case token.Ref:
		return true
	case token.Escape:
		return !ansi.Read(h.bytes, at).Open
	default:
		x, _ := tag.Read(h.bytes, at)
		return x.Closed
	}
}

// endsInName tells whether a tag is an end tag without a byte behind its name.
func endsInName(t token.Token) bool {
	return t.Kind == token.End && t.To-t.From == len("</")+len(t.Name)
}

// letGo lets go of the bytes up to the end of a token, and is these.
func (h *held) letGo(last token.Token) []byte {
	n := last.To - h.from
	gone, rest := h.bytes[:n:n], h.bytes[n:]
	// Without room behind them, what is added to the rest moves it away from the bytes that are gone.
	h.bytes, h.from = rest[:len(rest):len(rest)], last.To
	h.tag, h.kind, h.skip, h.construct = "", token.Text, 0, construct{}
	if last.Kind == token.Start && !last.Single {
		h.tag = "<" + last.Name + ">"
	}
	return gone
}

// keep remembers what is known of the held bytes by the token that they begin with.
func (h *held) keep(first token.Token) {
	h.kind = first.Kind
	switch {
	case first.Kind == token.Raw:
		h.skip = max(0, len(h.bytes)-back)
	case first.Kind == token.Text:
		h.tag, h.skip = "", max(0, len(h.bytes)-back)
	case endsInName(first) && h.tag == "<"+first.Name+">":
		// It may turn out to be raw bytes.
		h.kind = token.Raw
	default:
		h.tag = ""
	}
}

// isOpen tells whether the bytes from a place on leave the token that the held bytes begin with as open as it was.
func (h *held) isOpen(fresh int) bool {
	if fresh == len(h.bytes) {
		return true
	}
	switch h.kind {
	case token.Text, token.Raw:
		return false
	case token.Escape:
		return isOpenEscape(h.bytes, fresh)
	}
	return !h.closes(h.bytes, fresh)
}

// isOpenEscape tells whether an escape that was open up to a place goes on being so.
func isOpenEscape(b []byte, fresh int) bool {
	// What may follow depends on the first two bytes and on the last one; to read them all
	// again at each piece would take too long.
	from := min(max(fresh-1, 2), len(b))
	return ansi.Read(slices.Concat(b[:min(from, 2)], b[from:]), 0).Open
}
