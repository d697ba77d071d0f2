package wire_test

import (
	"bytes"
	"hash/fnv"
	"math/big"
	"math/rand"
	"slices"
	"testing"

	"virgule/api"
	"virgule/pack"
	"virgule/table"
	"virgule/wire"
)

// digits is a number's encoding, by division.
func digits(n *big.Int) []byte {
	quotient, digit := new(big.Int).DivMod(n, big.NewInt(128), new(big.Int))
	if quotient.Sign() == 0 {
		return []byte{byte(digit.Int64())}
	}
	return append([]byte{byte(digit.Int64()) + 128}, digits(quotient)...)
}

// number is the encoding of a number.
func number(n uint64) []byte {
	return digits(new(big.Int).SetUint64(n))
}

// list is the encoding of a list.
func list[N int | uint64](l []N) []byte {
	out := number(uint64(len(l)))
	for _, n := range l {
		out = append(out, number(uint64(n))...)
	}
	return out
}

// part is the encoding of a part.
func part(p table.Part) []byte {
	var check []int
	for _, row := range p.Check {
		check = append(check, row+1)
	}
	return slices.Concat(number(uint64(p.Width)), list(p.Usual), list(p.Base), list(check), list(p.Next), list(p.Tells))
}

// body is what stands between an encoding's letters and its checksum.
func body(x table.Table) []byte {
	return slices.Concat(number(uint64(x.Rules)), number(x.Ignore), number(x.Keep), number(x.Break),
		list(x.Groups), part(x.Left), part(x.Right))
}

// summed is bytes with their checksum behind them.
func summed(b []byte) []byte {
	sum := fnv.New64a()
	sum.Write(b)
	out := sum.Sum(nil)
	slices.Reverse(out)
	return append(slices.Clone(b), out...)
}

// whole is the letters, some bytes, and the checksum of all that.
func whole(body []byte) []byte {
	return summed(append([]byte("VRG1"), body...))
}

// encoding is the encoding of a table.
func encoding(x table.Table) []byte {
	return whole(body(x))
}

// source gives numbers out of bytes, in any encoding; zeros behind the last one.
type source []byte

func (s *source) number() uint64 {
	n, i := new(big.Int), 0
	for i < len(*s)-1 && (*s)[i] >= 128 {
		i++
	}
	for ; i >= 0 && i < len(*s); i-- {
		n.Add(n.Mul(n, big.NewInt(128)), big.NewInt(int64((*s)[i]%128)))
	}
	if end := slices.IndexFunc(*s, func(c byte) bool { return c < 128 }); end >= 0 {
		*s = (*s)[end+1:]
	} else {
		*s = nil
	}
	return n.Uint64()
}

func (s *source) list() []uint64 {
	var out []uint64
	for n := s.number(); n > 0 && len(*s) > 0; n-- {
		out = append(out, s.number())
	}
	return out
}

func ints(l []uint64, add int) []int {
	var out []int
	for _, n := range l {
		out = append(out, int(n)+add)
	}
	return out
}

func (s *source) part() table.Part {
	p := pack.Packed{Width: int(s.number())}
	p.Usual, p.Base = ints(s.list(), 0), ints(s.list(), 0)
	p.Check, p.Next = ints(s.list(), -1), ints(s.list(), 0)
	return table.Part{Packed: p, Tells: s.list()}
}

// meant is the valid table whose encoding bytes are, if there is one.
func meant(b []byte) (table.Table, bool) {
	if len(b) < 12 {
		return table.Table{}, false
	}
	s := source(b[4 : len(b)-8])
	x := table.Table{Rules: int(s.number())}
	x.Ignore, x.Keep, x.Break = s.number(), s.number(), s.number()
	x.Groups = ints(s.list(), 0)
	x.Left = s.part()
	x.Right = s.part()
	// Numbers were read in any form: only a valid table that has just these bytes counts.
	return x, table.Right(x) && bytes.Equal(encoding(x), b)
}

// fault is the error of bytes that are no encoding.
func fault(b []byte) api.Errno {
	if len(b) >= 12 && string(b[:4]) == "VRG1" && !bytes.Equal(summed(b[:len(b)-8]), b) {
		return api.ErrSum
	}
	return api.ErrForm
}

// holdEncode holds a valid table's encoding against the chapter's terms, and that it can be read back.
func holdEncode(t *testing.T, what string, x table.Table) []byte {
	t.Helper()
	b, err := wire.Encode(x)
	if want := encoding(x); err != api.OK || !bytes.Equal(b, want) {
		t.Fatalf("%s: Encode: %d, %x, not %x", what, err, b, want)
	}
	if back, err := wire.Decode(b); err != api.OK || !table.Same(back, x) {
		t.Fatalf("%s: Decode: %d, %+v, not %+v", what, err, back, x)
	}
	return b
}

// holdDecode holds Decode of any bytes against the chapter's terms, and tells whether they are an encoding.
func holdDecode(t *testing.T, what string, b []byte) bool {
	t.Helper()
	got, err := wire.Decode(b)
	want, ok := meant(b)
	if !ok {
		holdError(t, what, b, fault(b))
		return false
	}
	if err != api.OK || !table.Same(got, want) {
		t.Fatalf("%s: Decode of %x: %d, %+v, not %+v", what, b, err, got, want)
	}
	return true
}

// holdError holds that bytes are rejected with an error.
func holdError(t *testing.T, what string, b []byte, want api.Errno) {
	t.Helper()
	if got, err := wire.Decode(b); err != want || !isEmpty(got) {
		t.Fatalf("%s: Decode of %x: %d, %+v, not %d", what, b, err, got, want)
	}
}

// isEmpty tells whether there is nothing in a table.
func isEmpty(x table.Table) bool {
	return table.Same(x, table.Table{})
}

// lists is the lists of numbers of a part.
func lists(p *table.Part) [4]*[]int {
	return [4]*[]int{&p.Usual, &p.Base, &p.Check, &p.Next}
}

// copied is a table by itself.
func copied(x table.Table) table.Table {
	x.Groups = slices.Clone(x.Groups)
	for _, p := range []*table.Part{&x.Left, &x.Right} {
		for _, l := range lists(p) {
			*l = slices.Clone(*l)
		}
		p.Tells = slices.Clone(p.Tells)
	}
	return x
}

// randomTable is some valid table of up to so many rows and slots, which seldom is that of a rule set.
func randomTable(rng *rand.Rand, rows, slots int) table.Table {
	x := table.Table{Rules: rng.Intn(41), Ignore: bits(rng, 36), Keep: bits(rng, 36)}
	x.Break = bits(rng, x.Rules)
	groups := 0
	for range 37 {
		group := rng.Intn(groups + 1)
		groups = max(groups, group+1)
		x.Groups = append(x.Groups, group)
	}
	for _, p := range []*table.Part{&x.Left, &x.Right} {
		*p = randomPart(rng, 1+rng.Intn(rows), rng.Intn(slots+1), x.Rules)
		p.Width = groups
	}
	return x
}

// bits is some of so many bits.
func bits(rng *rand.Rand, count int) uint64 {
	return rng.Uint64() & rng.Uint64() & (1<<count - 1)
}

// randomPart is a part that is valid with any width.
func randomPart(rng *rand.Rand, rows, slots, rules int) table.Part {
	var p table.Part
	for range rows {
		p.Usual, p.Base = append(p.Usual, rng.Intn(rows)), append(p.Base, rng.Intn(slots+3))
		p.Tells = append(p.Tells, bits(rng, rules))
	}
	for range slots {
		row := rng.Intn(rows+1) - 1
		next := rng.Intn(rows)
		if row < 0 {
			next = rng.Intn(65536)
		}
		p.Check, p.Next = append(p.Check, row), append(p.Next, next)
	}
	return p
}
