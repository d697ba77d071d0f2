package table

import (
	"virgule/api"
	"virgule/dfa"
	"virgule/expr"
	"virgule/least"
	"virgule/nfa"
	"virgule/pack"
	"virgule/rule"
	"virgule/squeeze"
)

// Read is the table of a rule text.
func Read(s string) (Table, int, api.Errno) {
	meant, at, err := rule.Parse(s)
	if err != api.OK {
		return Table{}, at, err
	}
	t, err := Compile(meant)
	return t, 0, err
}

// Compile is the table of a meaning.
func Compile(t rule.Text) (Table, api.Errno) {
	if !rule.Right(t) {
		return Table{}, api.ErrArg
	}
	out := Table{Ignore: bitsOf(t.Ignore), Keep: bitsOf(t.Keep), Rules: len(t.Rules)}
	var lefts, rights []expr.Node
	for i, r := range t.Rules {
		lefts, rights = append(lefts, r.Left), append(rights, r.Right)
		if r.Break {
			out.Break |= 1 << i
		}
	}
	left, err := minimal(true, lefts)
	if err != api.OK {
		return Table{}, err
	}
	right, err := minimal(false, rights)
	if err != api.OK {
		return Table{}, err
	}
	out.Groups = squeeze.Groups(left, right)
	out.Left, out.Right = newPart(out.Groups, left), newPart(out.Groups, right)
	return out, api.OK
}

// bitsOf is classes, as bits.
func bitsOf(classes []int) uint64 {
	var out uint64
	for _, class := range classes {
		out |= 1 << class
	}
	return out
}

// minimal is the minimal table of right expressions.
func minimal(search bool, l []expr.Node) (dfa.DFA, api.Errno) {
	n, err := nfa.New(search, l...)
	if err != api.OK {
		return dfa.DFA{}, err
	}
	d, err := dfa.New(n)
	if err != api.OK {
		return dfa.DFA{}, err
	}
	return least.Least(d), api.OK
}

// newPart is the part of one of the tables whose grouping this is.
func newPart(groups []int, d dfa.DFA) Part {
	// Neither can fail: the grouping is the table's own, and its states and groups are no more than packed rows may have.
	n, _ := squeeze.Make(groups, d)
	p, _ := pack.Pack(squeeze.Many(groups), n.Next...)
	return Part{p, n.Tells}
}
