package pack

// wordSize is how many slots a word has bits of; no row is wider.
const wordSize = maxWidth

// slots is a bit for each slot, which is set if the slot is used; the slots behind all words are free.
type slots []uint64

// add puts a row behind the others, at the least base where it fits.
func (p *Packed) add(elements []int, used *slots) {
	row, usual := len(p.Usual), usualOf(elements)
	columns := columnsOf(elements, usual)
	base := used.find(columns)
	used.use(base, columns)
	p.Usual = append(p.Usual, usual)
	p.Base = append(p.Base, base)
	for column, element := range elements {
		if element != usual {
			p.fill(base+column, row, element)
		}
	}
}

// usualOf is a row's usual element.
func usualOf(elements []int) int {
	counts := map[int]int{}
	for _, element := range elements {
		counts[element]++
	}
	usual := elements[0]
	for _, element := range elements {
		isOftener := counts[element] > counts[usual]
		isLess := counts[element] == counts[usual] && element < usual
		if isOftener || isLess {
			usual = element
		}
	}
	return usual
}

// columnsOf is the columns whose element isn't the usual one, as bits.
func columnsOf(elements []int, usual int) uint64 {
	var out uint64
	for column, element := range elements {
		if element != usual {
			out |= 1 << column
		}
	}
	return out
}

// fill puts an element into a slot.
func (p *Packed) fill(slot, row, element int) {
	for len(p.Check) <= slot {
		p.Check = append(p.Check, free)
		p.Next = append(p.Next, 0)
	}
	p.Check[slot], p.Next[slot] = row, element
}

// find is the least base from which the slots of some columns are free.
func (s slots) find(columns uint64) int {
	base := 0
	for s.from(base)&columns != 0 {
		base++
	}
	return base
}

// from is the bits of the wordSize slots from a base on.
func (s slots) from(base int) uint64 {
	word, bit := base/wordSize, base%wordSize
	return s.word(word)>>bit | s.word(word+1)<<(wordSize-bit)
}

// word is the bits of a word, none if it is behind all words.
func (s slots) word(i int) uint64 {
	if i >= len(s) {
		return 0
	}
	return s[i]
}

// use sets the bits of the slots of some columns.
func (s *slots) use(base int, columns uint64) {
	word, bit := base/wordSize, base%wordSize
	for len(*s) <= word+1 {
		*s = append(*s, 0)
	}
	(*s)[word] |= columns << bit
	(*s)[word+1] |= columns >> (wordSize - bit)
}
