package expr

import "virgule/api"

// Matches tells whether an expression matches marks.
func Matches(n Node, marks ...int) bool {
	if !Right(n) {
		return false
	}
	s := newState(n)
	ends := s.empty
	for i, mark := range marks {
		s.step(i == 0, mark)
		if !s.live {
			return false
		}
		ends = s.ends
	}
	return ends
}

// state is a node while marks are read, one by one. It holds which leaves may have taken the last mark,
// so that the time it takes is bounded by nodes times marks, whatever the expression repeats.
type state struct {
	node  Node
	parts []*state
	empty bool // it matches no marks at all
	ends  bool // it matches marks up to the last one, from where it was begun
	live  bool // a leaf within it may have taken the last mark
}

// newState is the state of a node ahead of all marks.
func newState(n Node) *state {
	s := &state{node: n}
	empties := 0
	for _, k := range n.Kids {
		p := newState(k)
		s.parts = append(s.parts, p)
		if p.empty {
			empties++
		}
	}
	switch n.Kind {
	case Star, Maybe, Empty:
		s.empty = true
	case Alt:
		s.empty = empties > 0
	case Seq, Plus:
		s.empty = empties == len(s.parts)
	}
	return s
}

// step reads a mark; begins says whether the node may begin with it.
func (s *state) step(begins bool, mark int) {
	if !begins && !s.live {
		return
	}
	switch s.node.Kind {
	case Seq:
		s.stepSeq(begins, mark)
	case Star, Plus:
		s.stepAll(begins || s.ends, mark)
	case Alt, Maybe:
		s.stepAll(begins, mark)
	default:
		s.ends = begins && s.node.takes(mark)
		s.live = s.ends
	}
}

// stepAll reads a mark with parts of which one matches for the whole.
func (s *state) stepAll(begins bool, mark int) {
	s.ends, s.live = false, false
	for _, p := range s.parts {
		p.step(begins, mark)
		s.ends = s.ends || p.ends
		s.live = s.live || p.live
	}
}

// stepSeq reads a mark with parts that follow one another.
func (s *state) stepSeq(begins bool, mark int) {
	s.ends, s.live = false, false
	for _, p := range s.parts {
		// The next part may begin where this one ended ahead of the mark.
		next := p.ends || begins && p.empty
		p.step(begins, mark)
		s.ends = p.ends || s.ends && p.empty
		s.live = s.live || p.live
		begins = next
	}
}

// takes tells whether a leaf matches a mark.
func (n Node) takes(mark int) bool {
	switch n.Kind {
	case Class:
		return mark == n.Class
	case Any:
		return isClass(mark)
	case Not:
		return isClass(mark) && mark != n.Class
	case Start:
		return mark == api.StartID
	}
	return false
}
