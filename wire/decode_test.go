package wire_test

import (
	"bytes"
	"math"
	"math/big"
	"math/rand"
	"slices"
	"testing"

	"virgule/api"
	"virgule/wire"
)

// TestShort has bytes that are too short, or just not.
func TestShort(t *testing.T) {
	for s, want := range map[string]api.Errno{
		"": api.ErrForm, "V": api.ErrForm, "VRG1": api.ErrForm,
		"VRG1\x00\x00\x00\x00\x00\x00\x00":      api.ErrForm,
		"VRG1\x00\x00\x00\x00\x00\x00\x00\x00":  api.ErrSum,
		"VRG1\x00\x00\x00\x00\x00\x00\x00\x00x": api.ErrSum,
		"VRG0\x00\x00\x00\x00\x00\x00\x00\x00":  api.ErrForm,
		"VRG2\x00\x00\x00\x00\x00\x00\x00\x00":  api.ErrForm,
		"vrg1\x00\x00\x00\x00\x00\x00\x00\x00":  api.ErrForm,
		"\x00VRG1\x00\x00\x00\x00\x00\x00\x00":  api.ErrForm,
	} {
		holdError(t, s, []byte(s), want)
	}
	holdError(t, "nil", nil, api.ErrForm)
	holdError(t, "no body", whole(nil), api.ErrForm)
	for _, letters := range []string{"", "VRG", "VRG2", "vRG1", "VRG1V"} {
		x := append([]byte(letters), body(read(t, ""))...)
		holdError(t, letters+", summed", summed(x), api.ErrForm)
		if letters != "VRG1V" {
			holdError(t, letters, append(x, make([]byte, 8)...), api.ErrForm)
		}
	}
}

// TestOneByte changes each byte of encodings, in every way.
func TestOneByte(t *testing.T) {
	for _, s := range []string{"", "CR ! LF", "ignore Extend\nkeep Gap\n^ L* / any V"} {
		b, _ := wire.Encode(read(t, s))
		for i := range b {
			for change := 1; change < 256; change++ {
				x := slices.Clone(b)
				x[i] ^= byte(change)
				want := api.ErrSum
				if i < 4 {
					want = api.ErrForm
				}
				holdError(t, s, x, want)
				if i >= 4 && i < len(b)-8 {
					holdDecode(t, s+", summed", summed(x[:len(x)-8]))
				}
			}
		}
	}
}

// TestCut has the beginnings of encodings, encodings with something behind them, and without a byte.
func TestCut(t *testing.T) {
	for _, s := range texts() {
		b := holdEncode(t, s, read(t, s))
		inner := b[4 : len(b)-8]
		for length := range b {
			holdDecode(t, s+", cut", b[:length])
			if length < len(inner) {
				holdError(t, s+", cut and summed", whole(inner[:length]), api.ErrForm)
				holdDecode(t, s+", a byte taken out", whole(slices.Delete(slices.Clone(inner), length, length+1)))
			}
		}
		for _, more := range [][]byte{{0}, {1}, {0x80}, {0, 0}, {0xff}, b, inner} {
			holdError(t, s+", lengthened", append(slices.Clone(b), more...), api.ErrSum)
			holdError(t, s+", lengthened and summed", whole(append(slices.Clone(inner), more...)), api.ErrForm)
			holdError(t, s+", behind something", whole(append(slices.Clone(more), inner...)), api.ErrForm)
		}
	}
}

// numbersOf is the encodings of all numbers of a table, in order.
func numbersOf(b []byte) [][]byte {
	var out [][]byte
	for len(b) > 0 {
		end := 1 + slices.IndexFunc(b, func(c byte) bool { return c < 128 })
		out = append(out, b[:end])
		b = b[end:]
	}
	return out
}

// longer is an encoding of the same number that is not the shortest one.
func longer(number []byte, by int) []byte {
	out := slices.Clone(number)
	out[len(out)-1] |= 128
	return append(append(out, bytes.Repeat([]byte{128}, by-1)...), 0)
}

// raised is the shortest encoding of a number with another one added.
func raised(number []byte, add *big.Int) []byte {
	s := source(number)
	return digits(new(big.Int).Add(new(big.Int).SetUint64(s.number()), add))
}

// TestNumberForms writes each number of encodings in other forms, and writes greater ones, among them such as would wrap round.
func TestNumberForms(t *testing.T) {
	for _, s := range []string{"", "CR ! LF", "ignore Extend Gap\nkeep LF\nCR ! LF\nL* / V"} {
		b, _ := wire.Encode(read(t, s))
		all := numbersOf(b[4 : len(b)-8])
		for i, n := range all {
			with := func(other []byte) []byte {
				changed := slices.Clone(all)
				changed[i] = other
				return whole(slices.Concat(changed...))
			}
			if holdDecode(t, "as it was", with(n)); !bytes.Equal(with(n), b) {
				t.Fatal("the test itself is wrong")
			}
			for _, by := range []int{1, 2, 8, 9, 10, 20} {
				holdError(t, s+", longer", with(longer(n, by)), api.ErrForm)
			}
			for _, power := range []uint{7, 14, 16, 31, 32, 35, 36, 40, 53, 62, 63, 64, 65, 69, 70, 71, 77, 128} {
				add := new(big.Int).Lsh(big.NewInt(1), power)
				holdDecode(t, s+", greater", with(raised(n, add)))
				holdDecode(t, s+", one less", with(raised(n, add.Sub(add, big.NewInt(1)))))
				if power >= 63 {
					holdError(t, s+", far greater", with(raised(n, new(big.Int).Lsh(big.NewInt(1), power))), api.ErrForm)
				}
			}
			for _, unended := range [][]byte{{}, {0x80}, {0xff, 0xff}, bytes.Repeat([]byte{0x80}, 30), bytes.Repeat([]byte{0xff}, 30)} {
				holdDecode(t, s+", unended", with(unended))
				holdError(t, s+", unended, at the end", whole(append(slices.Concat(all[:i]...), unended...)), api.ErrForm)
			}
		}
	}
}

// TestCounts has lists that are said to be far longer than all bytes.
func TestCounts(t *testing.T) {
	x := body(read(t, ""))
	// The offset of each list's number of elements in the encoding of the table without rules.
	for _, at := range []int{4, 43, 45, 47, 48, 49, 52, 54, 56, 57, 58} {
		for _, count := range []uint64{38, 1 << 16, 1 << 31, 1<<32 + 1, 1 << 40, 1 << 62, 1 << 63, math.MaxUint64, math.MaxUint64 - 60} {
			holdError(t, "a count", whole(slices.Concat(x[:at], number(count), x[at+1:])), api.ErrForm)
			holdError(t, "a count at the end", whole(append(slices.Clone(x[:at]), number(count)...)), api.ErrForm)
		}
	}
}

// TestDamaged changes bytes of random tables' encodings, and sums them again.
func TestDamaged(t *testing.T) {
	rng := rand.New(rand.NewSource(3))
	decoded := 0
	for range 60 {
		b := body(randomTable(rng, 4, 12))
		for range 100 {
			x := slices.Clone(b)
			for range 1 + rng.Intn(3) {
				x = damaged(rng, x)
			}
			if holdDecode(t, "damaged", whole(x)) {
				decoded++
			}
			holdDecode(t, "damaged, not summed", slices.Concat([]byte("VRG1"), x, whole(b)[4+len(b):]))
		}
	}
	if decoded < 500 {
		t.Errorf("only %d of them were encodings", decoded)
	}
}

// damaged is bytes with something changed somewhere.
func damaged(rng *rand.Rand, b []byte) []byte {
	if len(b) < 2 {
		return b
	}
	i := rng.Intn(len(b))
	switch rng.Intn(6) {
	case 0:
		return slices.Insert(b, i, byte(rng.Intn(256)))
	case 1:
		return slices.Delete(b, i, i+1)
	case 2:
		return slices.Concat(b[:i], b[rng.Intn(len(b)):])
	case 3:
		b[i] ^= 1 << rng.Intn(8)
	case 4:
		b[i] = b[rng.Intn(len(b))]
	default:
		b[i] += byte(rng.Intn(3) - 1)
	}
	return b
}

// TestRandomBytes has bytes that have little to do with encodings.
func TestRandomBytes(t *testing.T) {
	rng := rand.New(rand.NewSource(4))
	for range 20000 {
		b := make([]byte, rng.Intn(80))
		for i := range b {
			b[i] = []byte{0, 0, 1, 1, 2, 3, 37, 127, 128, 255, byte(rng.Intn(256))}[rng.Intn(11)]
		}
		holdDecode(t, "random", b)
		holdDecode(t, "random, summed", summed(b))
		holdDecode(t, "random, whole", whole(b))
	}
}
