package nfa

import (
	"math/bits"

	"virgule/api"
)

// wordBits is how many positions a word of a set holds.
const wordBits = 64

// places is a set of positions, a bit for each: sets of all positions are united again and again,
// by whoever asks for each symbol behind each set.
type places [(api.MaxStates + wordBits - 1) / wordBits]uint64

// only is the set of one position.
func only(p int) places {
	var s places
	s[p/wordBits] = 1 << (p % wordBits)
	return s
}

// add adds the positions of another set.
func (s *places) add(other places) {
	for i, word := range other {
		s[i] |= word
	}
}

// keep removes the positions that are not in another set.
func (s *places) keep(other places) {
	for i, word := range other {
		s[i] &= word
	}
}

// count is how many positions there are.
func (s *places) count() int {
	count := 0
	for _, word := range s {
		count += bits.OnesCount64(word)
	}
	return count
}

// list is the positions, ascending.
func (s *places) list() []int {
	out := make([]int, 0, s.count())
	for i, word := range s {
		for ; word != 0; word &= word - 1 {
			out = append(out, i*wordBits+bits.TrailingZeros64(word))
		}
	}
	return out
}
