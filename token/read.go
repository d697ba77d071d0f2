package token

import (
	"iter"

	"virgule/ansi"
	"virgule/entity"
	"virgule/tag"
)

// each yields all tokens of b, in order.
func each(b []byte) iter.Seq[Token] {
	return func(yield func(Token) bool) {
		end := 0
		for t := range marks(b) {
			if end < t.From && !yield(text(end, t.From)) {
				return
			}
			if !yield(t) {
				return
			}
			end = t.To
		}
		if end < len(b) {
			yield(text(end, len(b)))
		}
	}
}

// text is the text that is left between two other tokens.
func text(from, to int) Token {
	return Token{Kind: Text, From: from, To: to}
}

// marks yields the tokens of b that aren't texts, in order.
func marks(b []byte) iter.Seq[Token] {
	return func(yield func(Token) bool) {
		for at := 0; at < len(b); {
			t, ok := mark(b, at)
			if !ok {
				at++
				continue
			}
			if !yield(t) {
				return
			}
			at = rawEnd(b, t)
			if t.To < at && !yield(Token{Kind: Raw, From: t.To, To: at}) {
				return
			}
		}
	}
}

// mark is the token that begins at a place, unless it is a text.
func mark(b []byte, at int) (Token, bool) {
	if x, ok := tag.Read(b, at); ok {
		return Token{Kind: ofTag(x.Kind), From: at, To: at + x.Size, Name: x.Name, Single: x.Single}, true
	}
	if r, size := entity.Read(b, at); size > 0 {
		return Token{Kind: Ref, From: at, To: at + size, R: r}, true
	}
	if x := ansi.Read(b, at); x.Size > 0 {
		return Token{Kind: Escape, From: at, To: at + x.Size}, true
	}
	return Token{}, false
}

// ofTag is the kind of a token that is a markup construct of a kind.
func ofTag(kind int) int {
	return [...]int{tag.Start: Start, tag.End: End, tag.Comment: Comment, tag.Decl: Decl}[kind]
}

// rawEnd is where the raw bytes behind a token end; where it ends itself, if there are none.
func rawEnd(b []byte, t Token) int {
	// A tag that isn't closed has nothing behind it, so that needn't be asked.
	if t.Kind != Start || t.Single || t.Name != "script" && t.Name != "style" {
		return t.To
	}
	at := t.To
	for at < len(b) && !endsRaw(b[at:], t.Name) {
		at++
	}
	return at
}

// endsRaw tells whether b begins with what ends the raw bytes of a name: with an end tag of that name.
func endsRaw(b []byte, name string) bool {
	// One byte behind the name tells where the name ends. To read on would take as long
	// as b is, at each of many tags that no > closes.
	most := len("</") + len(name) + 1
	x, ok := tag.Read(b[:min(most, len(b))], 0)
	return ok && x.Kind == tag.End && x.Name == name
}
