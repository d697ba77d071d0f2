package dfa

import (
	"strconv"

	"virgule/api"
	"virgule/nfa"
)

// builder gives sets of positions the numbers of states.
type builder struct {
	states  map[string]int // of the text of each set, its state
	waiting map[int][]int  // of each state that has no row yet, its set
}

// build is the table of an automaton that is not nil.
func build(n *nfa.NFA) (DFA, api.Errno) {
	var d DFA
	b := builder{states: map[string]int{}, waiting: map[int][]int{}}
	b.state(n.Begin())
	for state := 0; state < len(b.states); state++ {
		if len(b.states) > api.MaxStates {
			return DFA{}, api.ErrStates
		}
		set := b.waiting[state]
		delete(b.waiting, state)
		row := make([]int, Marks)
		for mark := range Marks {
			row[mark] = b.state(n.Step(set, mark))
		}
		d.Next = append(d.Next, row)
		d.Tells = append(d.Tells, n.Tells(set))
	}
	return d, api.OK
}

// state is the state of a set: the next number, if the set is new.
func (b *builder) state(set []int) int {
	name := text(set)
	state, ok := b.states[name]
	if !ok {
		state = len(b.states)
		b.states[name] = state
		b.waiting[state] = set
	}
	return state
}

// text is a set's text, which no other set has.
func text(set []int) string {
	var out []byte
	for _, p := range set {
		out = strconv.AppendInt(out, int64(p), 10)
		out = append(out, ',')
	}
	return string(out)
}
