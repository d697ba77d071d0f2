package rule

import (
	"strings"

	"virgule/expr"
	"virgule/prop"
)

// Words with which a line begins that is no rule, and the signs of rules.
const (
	letWord    = "let"
	ignoreWord = "ignore"
	keepWord   = "keep"
	breakSign  = '/'
	joinSign   = '!'
)

// Print is a meaning's text.
func Print(t Text) string {
	if !Right(t) {
		return ""
	}
	var b strings.Builder
	printList(&b, ignoreWord, t.Ignore)
	printList(&b, keepWord, t.Keep)
	for _, r := range t.Rules {
		r.print(&b)
	}
	return b.String()
}

// printList writes the line of a list, if there is something in it.
func printList(b *strings.Builder, word string, classes []int) {
	if len(classes) == 0 {
		return
	}
	b.WriteString(word)
	for _, class := range classes {
		b.WriteString(" " + prop.Name(class))
	}
	b.WriteString("\n")
}

// print writes the line of a right rule.
func (r Rule) print(b *strings.Builder) {
	if left := expr.Print(r.Left); left != "" {
		b.WriteString(left + " ")
	}
	b.WriteByte(r.sign())
	if right := expr.Print(r.Right); right != "" {
		b.WriteString(" " + right)
	}
	b.WriteString("\n")
}

// sign is the byte between a rule's sides.
func (r Rule) sign() byte {
	if r.Break {
		return breakSign
	}
	return joinSign
}
