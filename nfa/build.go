package nfa

import (
	"virgule/api"
	"virgule/expr"
)

// span is with which leaves the lists of a node begin and end.
type span struct {
	first, last places
	empty       bool // the node matches the empty list too
}

// add adds the positions of a right expression, which sets accept as a bit.
func (n *NFA) add(x expr.Node, bit uint64) {
	s := n.read(x)
	n.link(only(0), s.first)
	for _, p := range s.last.list() {
		n.tells[p] |= bit
	}
	if s.empty {
		n.tells[0] |= bit
	}
}

// link lets leaves follow positions.
func (n *NFA) link(from, to places) {
	for _, p := range from.list() {
		next := n.next[p]
		next.add(to)
		n.next[p] = next
	}
}

// read numbers the leaves of a node, and links them.
func (n *NFA) read(x expr.Node) span {
	switch x.Kind {
	case expr.Empty:
		return span{empty: true}
	case expr.Seq:
		return n.readSeq(x.Kids)
	case expr.Alt:
		return n.readAlt(x.Kids)
	case expr.Star, expr.Plus:
		s := n.read(x.Kids[0])
		n.link(s.last, s.first)
		s.empty = s.empty || x.Kind == expr.Star
		return s
	case expr.Maybe:
		s := n.read(x.Kids[0])
		s.empty = true
		return s
	}
	return n.readLeaf(x)
}

// readSeq reads parts that follow one another.
func (n *NFA) readSeq(parts []expr.Node) span {
	all := span{empty: true}
	for _, x := range parts {
		s := n.read(x)
		n.link(all.last, s.first)
		if all.empty {
			all.first.add(s.first)
		}
		if s.empty {
			s.last.add(all.last)
		}
		all.last = s.last
		all.empty = all.empty && s.empty
	}
	return all
}

// readAlt reads parts of which one matches for the whole.
func (n *NFA) readAlt(parts []expr.Node) span {
	var all span
	for _, x := range parts {
		s := n.read(x)
		all.first.add(s.first)
		all.last.add(s.last)
		all.empty = all.empty || s.empty
	}
	return all
}

// readLeaf gives a leaf the next number.
func (n *NFA) readLeaf(x expr.Node) span {
	leaf := only(n.count)
	n.count++
	for mark := range api.StartID + 1 {
		if expr.Matches(x, mark) {
			takers := n.takers[mark]
			takers.add(leaf)
			n.takers[mark] = takers
		}
	}
	return span{first: leaf, last: leaf}
}
