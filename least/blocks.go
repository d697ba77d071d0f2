package least

import (
	"maps"
	"slices"

	"virgule/dfa"
)

// block is states that nothing has told apart so far.
type block struct {
	states []int
	done   bool // which states lead into it tells no more states apart
}

// partition is the states of a table in blocks; in the end, states of different blocks are distinguished.
type partition struct {
	blocks map[int]block // by number
	of     []int         // of each state, the number of its block
	made   int           // how many numbers were given
}

// blocksOf is of each state of a valid table the number of its block: equivalent ones have the same.
func blocksOf(d dfa.DFA) []int {
	p := partition{blocks: map[int]block{}, of: make([]int, len(d.Next))}
	p.begin(d)
	p.refine(sourcesOf(d))
	return p.of
}

// begin has a block of all states that accept the same.
func (p *partition) begin(d dfa.DFA) {
	accepting := map[uint64][]int{}
	for state, tells := range d.Tells {
		accepting[tells] = append(accepting[tells], state)
	}
	for _, tells := range slices.Sorted(maps.Keys(accepting)) {
		p.put(block{states: accepting[tells]})
	}
}

// sources is of each state and each symbol the states that lead there.
type sources [][dfa.Marks][]int

// sourcesOf is the sources of a valid table.
func sourcesOf(d dfa.DFA) sources {
	out := make(sources, len(d.Next))
	for from, row := range d.Next {
		for mark := range dfa.Marks {
			out[row[mark]][mark] = append(out[row[mark]][mark], from)
		}
	}
	return out
}

// into is the states that lead by a symbol to one of some states.
func (s sources) into(states []int, mark int) []int {
	var out []int
	for _, to := range states {
		out = append(out, s[to][mark]...)
	}
	return out
}

// refine splits blocks until the states of each lead, by each symbol, to states of one block.
func (p *partition) refine(s sources) {
	// The parts of a block that is split have greater numbers, so that they are still to come.
	for number := 0; number < p.made; number++ {
		target, ok := p.blocks[number]
		if !ok || target.done {
			continue
		}
		target.done = true
		p.blocks[number] = target
		for mark := range dfa.Marks {
			p.splitBy(s.into(target.states, mark))
		}
	}
}

// put adds a block.
func (p *partition) put(b block) {
	for _, state := range b.states {
		p.of[state] = p.made
	}
	p.blocks[p.made] = b
	p.made++
}

// splitBy splits each block that has some of these states, and others too.
func (p *partition) splitBy(states []int) {
	inside := map[int][]int{}
	for _, state := range states {
		inside[p.of[state]] = append(inside[p.of[state]], state)
	}
	for _, number := range slices.Sorted(maps.Keys(inside)) {
		if len(inside[number]) < len(p.blocks[number].states) {
			p.split(number, inside[number])
		}
	}
}

// split puts two blocks in the place of one: of some of its states, and of the others.
func (p *partition) split(number int, inside []int) {
	old := p.blocks[number]
	delete(p.blocks, number)
	// If the whole is done, what leads into the lesser part tells what leads into the other one too.
	isLesser := 2*len(inside) < len(old.states)
	p.put(block{states: inside, done: old.done && !isLesser})
	// The others go into a new list: refine may still be reading the old one.
	var outside []int
	for _, state := range old.states {
		if p.of[state] == number {
			outside = append(outside, state)
		}
	}
	p.put(block{states: outside, done: old.done && isLesser})
}
