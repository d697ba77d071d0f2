package tag

import (
	"bytes"
	"slices"
	"strings"
)

const blanks = "\t\n\f\r "

// isLetter tells whether a name may begin with a byte.
func isLetter(c byte) bool {
	return 'A' <= c && c <= 'Z' || 'a' <= c && c <= 'z'
}

// oneOf tells of a byte whether it is one of some.
func oneOf(some string) func(c byte) bool {
	return func(c byte) bool { return strings.IndexByte(some, c) >= 0 }
}

// noneOf tells of a byte whether it is none of some.
func noneOf(some string) func(c byte) bool {
	return func(c byte) bool { return strings.IndexByte(some, c) < 0 }
}

// position is how far bytes were read.
type position struct {
	b  []byte
	at int
}

// isDone tells whether all bytes were read.
func (p *position) isDone() bool {
	return p.at == len(p.b)
}

// until moves to the first byte that ends a run, or past all, and is the run.
func (p *position) until(ends func(c byte) bool) []byte {
	run := p.b[p.at:]
	if i := slices.IndexFunc(run, ends); i >= 0 {
		run = run[:i]
	}
	p.at += len(run)
	return run
}

// take moves past a byte, if it is here.
func (p *position) take(c byte) bool {
	if p.isDone() || p.b[p.at] != c {
		return false
	}
	p.at++
	return true
}

// parser reads a tag from left to right.
type parser struct {
	position
	tag Tag
}

// readTag is the tag that b begins with, and whose name begins at a place.
func readTag(kind int, b []byte, at int) Tag {
	p := &parser{position: position{b: b, at: at}, tag: Tag{Kind: kind}}
	p.tag.Name = p.name(at, "/>")
	for !p.finish() {
		p.tag.Attrs = append(p.tag.Attrs, p.attr())
	}
	p.tag.Size = p.at
	return p.tag
}

// name reads on to a blank or one of other bytes, and is the name that begins at a place.
func (p *parser) name(from int, others string) string {
	p.until(oneOf(blanks + others))
	return Lower(string(p.b[from:p.at]))
}

// finish reads what parts attributes, and tells whether the tag ends there.
func (p *parser) finish() bool {
	passed := p.until(noneOf(blanks + "/"))
	if p.take('>') {
		p.tag.Closed = true
		p.tag.Single = bytes.HasSuffix(passed, []byte("/"))
		return true
	}
	return p.isDone()
}

// attr reads the attribute that begins here.
func (p *parser) attr() Attr {
	from := p.at
	// The first byte is of the name, also if another one like it would end the name.
	p.at++
	a := Attr{Name: p.name(from, "/>=")}
	p.until(noneOf(blanks))
	if p.take('=') {
		p.until(noneOf(blanks))
		a.Value = p.value()
	}
	return a
}

// value reads the value that begins here.
func (p *parser) value() string {
	for _, quote := range []byte(`"'`) {
		if p.take(quote) {
			v := p.until(func(c byte) bool { return c == quote })
			p.take(quote)
			return string(v)
		}
	}
	return string(p.until(oneOf(blanks + ">")))
}
