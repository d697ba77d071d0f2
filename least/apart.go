package least

import (
	"slices"

	"virgule/dfa"
)

// step is two states to which a list leads: a symbol, behind the list of an earlier step.
type step struct {
	p, q   int
	mark   int
	before int // the number of the earlier step, -1 if the list is empty
}

// Apart is the first marks that tell two states apart.
func Apart(d dfa.DFA, p, q int) ([]int, bool) {
	if dfa.Run(d, p) < 0 || dfa.Run(d, q) < 0 {
		return nil, false
	}
	if d.Tells[p] != d.Tells[q] {
		return nil, true
	}
	steps, ok := search(d, p, q)
	if !ok {
		return nil, false
	}
	return marksTo(steps), true
}

// search goes through lists, the shorter ones first, until the last step's list distinguishes two states
// that accept the same.
func search(d dfa.DFA, p, q int) ([]step, bool) {
	taken := newTogether(len(d.Next))
	if !taken.join(p, q) {
		return nil, false
	}
	steps := []step{{p: p, q: q, before: -1}}
	found := false
lists:
	for at := 0; at < len(steps); at++ {
		for mark := range dfa.Marks {
			next := step{d.Next[steps[at].p][mark], d.Next[steps[at].q][mark], mark, at}
			// If a list distinguishes states that are together already, it distinguishes two of an earlier
			// step, whose list comes first: so this one need not be gone on with.
			if !taken.join(next.p, next.q) {
				continue
			}
			steps = append(steps, next)
			if d.Tells[next.p] != d.Tells[next.q] {
				found = true
				break lists
			}
		}
	}
	return steps, found
}

// marksTo is the list of the last step.
func marksTo(steps []step) []int {
	var out []int
	for at := len(steps) - 1; steps[at].before >= 0; at = steps[at].before {
		out = append(out, steps[at].mark)
	}
	slices.Reverse(out)
	return out
}

// together is sets of states without common ones: of each state another one of its set, or itself.
type together []int

// newTogether has each of some states by itself.
func newTogether(count int) together {
	out := make(together, count)
	for state := range out {
		out[state] = state
	}
	return out
}

// top is the state that stands for a state's set.
func (t together) top(state int) int {
	for t[state] != state {
		t[state] = t[t[state]]
		state = t[state]
	}
	return state
}

// join unites the sets of two states; false if they were one.
func (t together) join(p, q int) bool {
	p, q = t.top(p), t.top(q)
	t[p] = q
	return p != q
}
