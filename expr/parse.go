package expr

import (
	"slices"

	"virgule/api"
	"virgule/prop"
)

// Parse is the expression of a text.
func Parse(s string, known ...Macro) (Node, int, api.Errno) {
	if len(s) > api.MaxRuled {
		return Node{}, 0, api.ErrLong
	}
	p := &parser{cursor: cursor{text: s}, known: known, found: map[string]Node{}}
	n, err := p.alt()
	if err == api.OK && p.at < len(s) {
		err = api.ErrForm
	}
	if err != api.OK {
		return Node{}, p.at, err
	}
	// All nodes are right as they are made, so there can only be too many.
	if !Right(n) {
		return Node{}, 0, api.ErrLong
	}
	return clone(n), 0, api.OK
}

// clone is an expression that shares nothing with n, so nothing with a macro.
func clone(n Node) Node {
	n.Kids = slices.Clone(n.Kids)
	for i, k := range n.Kids {
		n.Kids[i] = clone(k)
	}
	return n
}

// cursor is a position in a text.
type cursor struct {
	text string
	at   int
}

// peek is the byte at the position; at the end 0, with which no text continues either.
func (c *cursor) peek() byte {
	if c.at == len(c.text) {
		return 0
	}
	return c.text[c.at]
}

// skip moves past spaces.
func (c *cursor) skip() {
	for c.peek() == ' ' {
		c.at++
	}
}

// isParted tells whether a space is just ahead of the position.
func (c *cursor) isParted() bool {
	return c.at > 0 && c.text[c.at-1] == ' '
}

// take moves past a byte and the spaces behind it, if that byte is here.
func (c *cursor) take(b byte) bool {
	if c.peek() != b {
		return false
	}
	c.at++
	c.skip()
	return true
}

// name moves past all letters that follow, and is their text.
func (c *cursor) name() string {
	from := c.at
	for isLetter(c.peek()) {
		c.at++
	}
	return c.text[from:c.at]
}

// isLetter tells whether a name may have a byte.
func isLetter(b byte) bool {
	return 'A' <= b && b <= 'Z' || 'a' <= b && b <= 'z'
}

// parser reads a text from left to right. Its position is where the text is wrong as soon as a method
// answers an error; else it is past what that method read and the spaces behind.
type parser struct {
	cursor
	known []Macro
	found map[string]Node // of the macros that were asked for; Empty for none
	open  int             // parentheses that are open
}

// alt reads parts with | between them.
func (p *parser) alt() (Node, api.Errno) {
	var parts []Node
	for {
		n, err := p.seq()
		if err != api.OK {
			return Node{}, err
		}
		parts = append(parts, n)
		if !p.take('|') {
			return join(Alt, parts), api.OK
		}
	}
}

// seq reads parts with spaces between them.
func (p *parser) seq() (Node, api.Errno) {
	var parts []Node
	for {
		n, err := p.part()
		if err != api.OK {
			return Node{}, err
		}
		parts = append(parts, n)
		// The chapter has spaces between all parts, also where a parenthesis or a sign parts them.
		if !p.isParted() || !beginsPart(p.peek()) {
			return join(Seq, parts), api.OK
		}
	}
}

// join is a node of parts, or the only part.
func join(kind int, parts []Node) Node {
	if len(parts) == 1 {
		return parts[0]
	}
	return Node{Kind: kind, Kids: parts}
}

// beginsPart tells whether a part of a Seq may begin with a byte.
func beginsPart(b byte) bool {
	return isLetter(b) || b == '~' || b == '^' || b == '('
}

// part reads what may be repeated, and how often.
func (p *parser) part() (Node, api.Errno) {
	n, err := p.single()
	if err != api.OK {
		return Node{}, err
	}
	p.skip()
	switch {
	case p.take('*'):
		return Node{Kind: Star, Kids: []Node{n}}, api.OK
	case p.take('+'):
		return Node{Kind: Plus, Kids: []Node{n}}, api.OK
	case p.take('?'):
		return Node{Kind: Maybe, Kids: []Node{n}}, api.OK
	}
	return n, api.OK
}

// single reads a leaf, a macro's name, or what stands in parentheses; spaces behind it are left.
func (p *parser) single() (Node, api.Errno) {
	p.skip()
	switch {
	case p.peek() == '(':
		return p.group()
	case p.take('~'):
		return p.not()
	case p.peek() == '^':
		p.at++
		return Node{Kind: Start}, api.OK
	}
	return p.named()
}

// group reads what stands in parentheses.
func (p *parser) group() (Node, api.Errno) {
	if p.open == api.MaxDeep {
		return Node{}, api.ErrDeep
	}
	p.open++
	p.at++
	n, err := p.alt()
	if err != api.OK {
		return Node{}, err
	}
	if p.peek() != ')' {
		return Node{}, api.ErrForm
	}
	p.at++
	p.open--
	return n, api.OK
}

// not reads the name behind ~, which is a class's, whatever macros there are.
func (p *parser) not() (Node, api.Errno) {
	return p.read(func(name string) (Node, bool) {
		class, ok := prop.Number(name)
		return Node{Kind: Not, Class: class}, ok
	})
}

// named reads a name that stands by itself.
func (p *parser) named() (Node, api.Errno) {
	return p.read(func(name string) (Node, bool) {
		if name == anyName {
			return Node{Kind: Any}, true
		}
		if n := p.macro(name); n.Kind != Empty {
			return n, true
		}
		class, ok := prop.Number(name)
		return Node{Kind: Class, Class: class}, ok
	})
}

// read reads a name, and answers what it means.
func (p *parser) read(means func(name string) (Node, bool)) (Node, api.Errno) {
	from := p.at
	name := p.name()
	if name == "" {
		return Node{}, api.ErrForm
	}
	n, ok := means(name)
	if !ok {
		p.at = from
		return Node{}, api.ErrName
	}
	return n, api.OK
}

// macro is the expression of a name, Empty if there is none. Each name is searched for once.
func (p *parser) macro(name string) Node {
	n, ok := p.found[name]
	if !ok {
		n = last(p.known, name)
		p.found[name] = n
	}
	return n
}

// last is the expression of the last macro of a name that isn't ignored, Empty if there is none.
func last(known []Macro, name string) Node {
	for _, m := range slices.Backward(known) {
		if m.Name == name && m.Node.Kind != Empty && Right(m.Node) {
			return m.Node
		}
	}
	return Node{Kind: Empty}
}
