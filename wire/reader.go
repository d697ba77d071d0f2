package wire

import (
	"math"

	"virgule/pack"
	"virgule/table"
)

// position is how far bytes were read.
type position struct {
	at    int
	wrong bool // something ahead of there is no part of an encoding
}

// reader reads a table from what stands between an encoding's letters and its checksum. Behind something wrong it reads zeros.
type reader struct {
	position
	body []byte
}

// left is how many bytes are not read yet.
func (r *reader) left() int {
	return len(r.body) - r.at
}

// isDone tells whether all bytes were read, and nothing was wrong.
func (r *reader) isDone() bool {
	return !r.wrong && r.left() == 0
}

// fail gives up: nothing is left to be read.
func (r *reader) fail() {
	r.position = position{at: len(r.body), wrong: true}
}

// table reads a table, which need not be valid.
func (r *reader) table() table.Table {
	var t table.Table
	t.Rules = r.small()
	t.Ignore, t.Keep, t.Break = r.number(), r.number(), r.number()
	t.Groups = list(r, r.small)
	t.Left, t.Right = r.part(), r.part()
	return t
}

// part reads a part of a table.
func (r *reader) part() table.Part {
	p := pack.Packed{Width: r.small()}
	p.Usual, p.Base = list(r, r.small), list(r, r.small)
	p.Check = shifted(list(r, r.small), -1)
	p.Next = list(r, r.small)
	return table.Part{Packed: p, Tells: list(r, r.number)}
}

// list reads a list, each element by a method of the reader.
func list[N int | uint64](r *reader, element func() N) []N {
	count := r.number()
	// Each element has at least a byte: more of them must not take any memory.
	if count > uint64(r.left()) {
		r.fail()
		return nil
	}
	out := make([]N, count)
	for i := range out {
		out[i] = element()
	}
	return out
}

// small reads a number that may be one of a valid table's where bits are not meant.
func (r *reader) small() int {
	n := r.number()
	if n > math.MaxInt32 {
		r.fail()
		return 0
	}
	return int(n)
}

// number reads a number.
func (r *reader) number() uint64 {
	var n uint64
	for shift := 0; r.left() > 0; shift += groupBits {
		c := r.body[r.at]
		r.at++
		group := uint64(c &^ moreBit)
		isTooMuch, isNeedless := group<<shift>>shift != group, c == 0 && shift > 0
		if isTooMuch || isNeedless {
			break
		}
		n |= group << shift
		if c < moreBit {
			return n
		}
	}
	r.fail()
	return 0
}
