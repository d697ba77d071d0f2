package rule

import (
	"slices"
	"strings"

	"virgule/api"
	"virgule/expr"
	"virgule/prop"
)

// anyName is the name that an expression has for any class.
const anyName = "any"

// Parse is what a text means.
func Parse(s string) (Text, int, api.Errno) {
	if len(s) > api.MaxRuled {
		return Text{}, 0, api.ErrLong
	}
	p := &parser{}
	from := 0
	for raw := range strings.SplitSeq(s, "\n") {
		p.line = newLine(s[:from+len(raw)], from)
		if err := p.read(); err != api.OK {
			return Text{}, p.at, err
		}
		from += len(raw) + 1
	}
	return p.meant, 0, api.OK
}

// line is a line of a text. It is read from left to right.
type line struct {
	text  string // of all lines, up to the end of this one, or to its #
	begin int    // the offset of its first byte that isn't a space
	at    int    // the offset of the byte that is read next
}

// newLine is the last line of a text, which begins at an offset.
func newLine(text string, from int) line {
	body, _, _ := strings.Cut(text[from:], "#")
	l := line{text: text[:from+len(body)], at: from}
	l.skip()
	l.begin = l.at
	return l
}

// end is the line's end.
func (l *line) end() int {
	return len(l.text)
}

// find is the offset of the next byte that is what is asked for, or else the line's end.
func (l *line) find(is func(rune) bool) int {
	i := strings.IndexFunc(l.text[l.at:], is)
	if i < 0 {
		return l.end()
	}
	return l.at + i
}

// skip moves past spaces.
func (l *line) skip() {
	l.at = l.find(func(r rune) bool { return r != ' ' })
}

// letters moves past all letters that follow, and is their text.
func (l *line) letters() string {
	from := l.at
	l.at = l.find(func(r rune) bool { return !isLetter(r) })
	return l.text[from:l.at]
}

// take moves past a byte, if that byte is here.
func (l *line) take(b byte) bool {
	if l.at == l.end() || l.text[l.at] != b {
		return false
	}
	l.at++
	return true
}

// isLetter tells whether a name may have a letter.
func isLetter(r rune) bool {
	return 'A' <= r && r <= 'Z' || 'a' <= r && r <= 'z'
}

// isSign tells whether something stands between a rule's sides.
func isSign(r rune) bool {
	return r == joinSign || r == breakSign
}

// parser reads a text line by line. Its position is where the text is wrong as soon as a method answers an error.
type parser struct {
	line
	macros []expr.Macro
	meant  Text
}

// read reads the line.
func (p *parser) read() api.Errno {
	if p.at == p.end() {
		return api.OK
	}
	switch p.letters() {
	case letWord:
		return p.let()
	case ignoreWord:
		return p.list(&p.meant.Ignore)
	case keepWord:
		return p.list(&p.meant.Keep)
	}
	p.at = p.begin
	return p.rule()
}

// let reads a macro, from behind its word on.
func (p *parser) let() api.Errno {
	if !p.take(' ') {
		return api.ErrForm
	}
	from := p.at
	name := p.letters()
	if err := p.admit(name); err != api.OK {
		p.at = from
		return err
	}
	p.skip()
	if !p.take('=') {
		return api.ErrForm
	}
	n, err := p.expression(p.end())
	if err != api.OK {
		return err
	}
	p.macros = append(p.macros, expr.Macro{Name: name, Node: n})
	return api.OK
}

// admit tells what is wrong with a name of a new macro.
func (p *parser) admit(name string) api.Errno {
	switch name {
	case "":
		return api.ErrForm
	case letWord, ignoreWord, keepWord, anyName:
		return api.ErrName
	}
	if _, ok := prop.Number(name); ok {
		return api.ErrName
	}
	if slices.ContainsFunc(p.macros, func(m expr.Macro) bool { return m.Name == name }) {
		return api.ErrTwice
	}
	return api.OK
}

// list reads the names of classes, from behind the list's word on.
func (p *parser) list(into *[]int) api.Errno {
	// A list that was read has a class: without one its line is wrong.
	if len(*into) > 0 {
		p.at = p.begin
		return api.ErrTwice
	}
	var classes []int
	for p.skip(); p.at < p.end() || len(classes) == 0; p.skip() {
		class, err := p.class()
		if err != api.OK {
			return err
		}
		classes = append(classes, class)
	}
	slices.Sort(classes)
	*into = slices.Compact(classes)
	return api.OK
}

// class reads a class's name.
func (p *parser) class() (int, api.Errno) {
	from := p.at
	name := p.letters()
	if name == "" {
		return 0, api.ErrForm
	}
	class, ok := prop.Number(name)
	if !ok {
		p.at = from
		return 0, api.ErrName
	}
	return class, api.OK
}

// rule reads a rule.
func (p *parser) rule() api.Errno {
	if len(p.meant.Rules) == api.MaxRules {
		return api.ErrLong
	}
	sign := p.find(isSign)
	if sign == p.end() {
		p.at = sign
		return api.ErrForm
	}
	left, err := p.side(sign)
	if err != api.OK {
		return err
	}
	p.at = sign + 1
	right, err := p.side(p.end())
	if err != api.OK {
		return err
	}
	if err = fault(right); err != api.OK {
		p.at = sign + 1
		return err
	}
	p.meant.Rules = append(p.meant.Rules, Rule{Left: left, Right: right, Break: p.text[sign] == breakSign})
	return api.OK
}

// side reads a side of a rule, up to an offset: an expression or nothing.
func (p *parser) side(to int) (expr.Node, api.Errno) {
	if strings.Trim(p.text[p.at:to], " ") == "" {
		return expr.Node{Kind: expr.Empty}, api.OK
	}
	return p.expression(to)
}

// expression reads an expression, up to an offset.
func (p *parser) expression(to int) (expr.Node, api.Errno) {
	// Spaces ahead of that offset are the expression's, so that one that ends too early is wrong just there.
	n, at, err := expr.Parse(p.text[p.at:to], p.macros...)
	if err != api.OK {
		p.at += at
		return expr.Node{}, err
	}
	p.at = to
	return n, api.OK
}
