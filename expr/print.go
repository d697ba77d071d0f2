package expr

import (
	"strings"

	"virgule/prop"
)

// anyName is the name of what matches each class.
const anyName = "any"

// Print is an expression's text.
func Print(n Node) string {
	if !Right(n) {
		return ""
	}
	var b strings.Builder
	n.print(&b)
	return b.String()
}

// print writes the text of a right expression.
func (n Node) print(b *strings.Builder) {
	switch n.Kind {
	case Class:
		b.WriteString(prop.Name(n.Class))
	case Any:
		b.WriteString(anyName)
	case Not:
		b.WriteString("~" + prop.Name(n.Class))
	case Start:
		b.WriteString("^")
	case Seq:
		n.printParts(b, " ")
	case Alt:
		n.printParts(b, "|")
	case Star:
		n.printParts(b, "")
		b.WriteString("*")
	case Plus:
		n.printParts(b, "")
		b.WriteString("+")
	case Maybe:
		n.printParts(b, "")
		b.WriteString("?")
	}
}

// printParts writes the parts of a node, with a text between any two.
func (n Node) printParts(b *strings.Builder, between string) {
	for i, k := range n.Kids {
		if i > 0 {
			b.WriteString(between)
		}
		if n.encloses(k) {
			b.WriteString("(")
			k.print(b)
			b.WriteString(")")
		} else {
			k.print(b)
		}
	}
}

// encloses tells whether a part stands in parentheses.
func (n Node) encloses(part Node) bool {
	switch n.Kind {
	case Seq:
		return part.Kind == Seq || part.Kind == Alt
	case Alt:
		return part.Kind == Alt
	}
	return len(part.Kids) > 0
}
