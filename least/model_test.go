package least_test

import (
	"math/rand"
	"slices"
	"testing"

	"virgule/dfa"
	"virgule/least"
)

// none is the length of a list that there isn't.
const none = -1

// model is what the chapter's terms say of a valid table.
type model struct {
	dfa.DFA
	far [][]int // of each two states, how long the shortest list is that distinguishes them
}

// newModel finds, length by length, the states that lists of this length distinguish.
func newModel(d dfa.DFA) model {
	m := model{DFA: d}
	for range d.Next {
		m.far = append(m.far, slices.Repeat([]int{none}, len(d.Next)))
	}
	m.fill(0, func(p, q int) bool { return d.Tells[p] != d.Tells[q] })
	for length := 1; m.fill(length, func(p, q int) bool { return m.nearer(p, q, length) >= 0 }); length++ {
	}
	return m
}

// fill gives a length to the states that have none so far; false if there are no such ones.
func (m model) fill(length int, is func(p, q int) bool) bool {
	isSome := false
	for p := range m.far {
		for q := range m.far {
			if m.far[p][q] == none && is(p, q) {
				m.far[p][q], isSome = length, true
			}
		}
	}
	return isSome
}

// nearer is the first symbol by which two states lead to ones that a list less long by one distinguishes, or none.
func (m model) nearer(p, q, length int) int {
	for mark := range 37 {
		if m.far[m.Next[p][mark]][m.Next[q][mark]] == length-1 {
			return mark
		}
	}
	return none
}

// apart is the first one of the shortest lists that distinguish two states.
func (m model) apart(p, q int) ([]int, bool) {
	if m.far[p][q] == none {
		return nil, false
	}
	var out []int
	for length := m.far[p][q]; length > 0; length-- {
		mark := m.nearer(p, q, length)
		p, q, out = m.Next[p][mark], m.Next[q][mark], append(out, mark)
	}
	return out, true
}

// like is where a state is in a list, or an equivalent one; none if it isn't there.
func (m model) like(states []int, state int) int {
	return slices.IndexFunc(states, func(other int) bool { return m.far[other][state] == none })
}

// classes is the chapter's numbers of equivalent states.
func (m model) classes() []int {
	var out, first []int
	for state := range m.Next {
		at := m.like(first, state)
		if at == none {
			at, first = len(first), append(first, state)
		}
		out = append(out, at)
	}
	return out
}

// least is the minimal table.
func (m model) least() dfa.DFA {
	states := []int{0}
	var out dfa.DFA
	for at := 0; at < len(states); at++ {
		var row []int
		for mark := range 37 {
			to := m.Next[states[at]][mark]
			if m.like(states, to) == none {
				states = append(states, to)
			}
			row = append(row, m.like(states, to))
		}
		out.Next, out.Tells = append(out.Next, row), append(out.Tells, m.Tells[states[at]])
	}
	return out
}

// hold holds what is answered for a valid table against the chapter's terms.
func hold(t *testing.T, d dfa.DFA) {
	t.Helper()
	m := newModel(d)
	if got, want := least.Classes(d), m.classes(); !slices.Equal(got, want) {
		t.Fatalf("%v: Classes: %d, not %d", d, got, want)
	}
	if got, want := least.Least(d), m.least(); !dfa.Same(got, want) {
		t.Fatalf("%v: Least: %v, not %v", d, got, want)
	}
	for p := range d.Next {
		for q := range d.Next {
			holdApart(t, m, p, q)
		}
	}
}

// holdApart holds Apart of two states against the chapter's terms.
func holdApart(t *testing.T, m model, p, q int) {
	t.Helper()
	got, ok := least.Apart(m.DFA, p, q)
	if want, isThere := m.apart(p, q); !slices.Equal(got, want) || ok != isThere {
		t.Fatalf("%v: Apart of %d and %d: %d, %t, not %d, %t", m.DFA, p, q, got, ok, want, isThere)
	}
}

// holdConsequence holds a minimal table against what the chapter says of it.
func holdConsequence(t *testing.T, d dfa.DFA) {
	t.Helper()
	small := least.Least(d)
	if !dfa.Right(small) || !dfa.Same(least.Least(small), small) {
		t.Fatalf("%v: Least isn't its own: %v", d, small)
	}
	if !least.Alike(d, small) || !least.Alike(small, d) || !alike(d, small) {
		t.Fatalf("%v: Least is another: %v", d, small)
	}
	if got := least.Classes(small); slices.Max(got) != len(small.Next)-1 {
		t.Fatalf("%v: Least has equivalent states: %d", d, got)
	}
	for p := range small.Next {
		for q := range p {
			if _, ok := least.Apart(small, p, q); !ok {
				t.Fatalf("%v: Least has the equivalent states %d, %d", d, p, q)
			}
		}
	}
}

// alike goes through all pairs of states to which lists lead.
func alike(a, b dfa.DFA) bool {
	pairs := [][2]int{{0, 0}}
	found := map[[2]int]bool{{0, 0}: true}
	for at := 0; at < len(pairs); at++ {
		p, q := pairs[at][0], pairs[at][1]
		if a.Tells[p] != b.Tells[q] {
			return false
		}
		for mark := range 37 {
			next := [2]int{a.Next[p][mark], b.Next[q][mark]}
			if !found[next] {
				found[next] = true
				pairs = append(pairs, next)
			}
		}
	}
	return true
}

// table is the table of states of which each has a state for each group of symbols.
func table(groups []int, tells []uint64, next ...[]int) dfa.DFA {
	d := dfa.DFA{Tells: tells}
	for _, to := range next {
		row := make([]int, 37)
		for mark := range row {
			row[mark] = to[groups[mark]]
		}
		d.Next = append(d.Next, row)
	}
	return d
}

// groups is for each symbol a group: that of its remainder.
func groups(count int) []int {
	out := make([]int, 37)
	for mark := range out {
		out[mark] = mark % count
	}
	return out
}

// random is some valid table of states that accept one of few things.
func random(rng *rand.Rand, states, columns, accepts int) dfa.DFA {
	var tells []uint64
	var next [][]int
	for range states {
		to := make([]int, columns)
		for i := range to {
			to[i] = rng.Intn(states)
		}
		tells, next = append(tells, uint64(rng.Intn(accepts))), append(next, to)
	}
	shuffled := groups(columns)
	rng.Shuffle(len(shuffled), func(i, j int) { shuffled[i], shuffled[j] = shuffled[j], shuffled[i] })
	return table(shuffled, tells, next...)
}

// unfolded is a table of more states, each of which does what a state of d does; so do the first ones.
func unfolded(rng *rand.Rand, d dfa.DFA, states int) dfa.DFA {
	like := []int{0}
	for range states - 1 {
		like = append(like, rng.Intn(len(d.Next)))
	}
	for state := range d.Next {
		if !slices.Contains(like, state) {
			like = append(like, state)
		}
	}
	var out dfa.DFA
	for _, state := range like {
		var row []int
		for _, to := range d.Next[state] {
			at := rng.Intn(len(like))
			for like[at] != to {
				at = (at + 1) % len(like)
			}
			row = append(row, at)
		}
		out.Next, out.Tells = append(out.Next, row), append(out.Tells, d.Tells[state])
	}
	return out
}

// copied is a table by itself.
func copied(d dfa.DFA) dfa.DFA {
	out := dfa.DFA{Tells: slices.Clone(d.Tells)}
	for _, next := range d.Next {
		out.Next = append(out.Next, slices.Clone(next))
	}
	return out
}
