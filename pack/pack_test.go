package pack_test

import (
	"math"
	"math/rand"
	"slices"
	"strconv"
	"testing"

	"virgule/api"
	"virgule/pack"
)

// distinct is a row of numbers that follow one another.
func distinct(width, from int) []int {
	var out []int
	for column := range width {
		out = append(out, from+column)
	}
	return out
}

// TestExample is the chapter's example.
func TestExample(t *testing.T) {
	p, err := pack.Pack(2, []int{5, 5}, []int{5, 6}, []int{6, 5})
	want := pack.Packed{Width: 2, Usual: []int{5, 5, 5}, Base: []int{0, 0, 0}, Check: []int{2, 1}, Next: []int{6, 6}}
	if err != api.OK || !same(p, want) {
		t.Error(p, err)
	}
	hold(t, "the example", p, true)
}

// TestPacked has packed rows that are written out.
func TestPacked(t *testing.T) {
	for _, x := range []struct {
		what string
		rows [][]int
		want pack.Packed
	}{
		{"no rows", nil, pack.Packed{Width: 4}},
		{"all the same", [][]int{{7, 7, 7, 7}, {0, 0, 0, 0}, {65535, 65535, 65535, 65535}},
			pack.Packed{Width: 4, Usual: []int{7, 0, 65535}, Base: []int{0, 0, 0}}},
		{"the least of two", [][]int{{9, 3, 3, 9}, {3, 9, 9, 3}},
			pack.Packed{Width: 4, Usual: []int{3, 3}, Base: []int{0, 0}, Check: []int{0, 1, 1, 0}, Next: []int{9, 9, 9, 9}}},
		{"the least of four", [][]int{{8, 6, 7, 5}},
			pack.Packed{Width: 4, Usual: []int{5}, Base: []int{0}, Check: []int{0, 0, 0}, Next: []int{8, 6, 7}}},
		{"the most frequent, though greater", [][]int{{1, 9, 9, 9}, {9, 1, 1, 9}, {2, 9, 1, 9}},
			pack.Packed{Width: 4, Usual: []int{9, 1, 9}, Base: []int{0, 1, 3}, Check: []int{0, 1, -1, 2, 1, 2}, Next: []int{1, 9, 0, 2, 9, 1}}},
		{"0 is an element as others are", [][]int{{5, 0, 5, 0}, {5, 0, 5, 5}},
			pack.Packed{Width: 4, Usual: []int{0, 5}, Base: []int{0, 0}, Check: []int{0, 1, 0}, Next: []int{5, 0, 5}}},
		{"a gap of an earlier row", [][]int{{1, 0, 0, 1}, {1, 1, 0, 0}, {0, 0, 0, 2}, {1, 0, 0, 0}},
			pack.Packed{Width: 4, Usual: []int{0, 0, 0, 0}, Base: []int{0, 1, 1, 5}, Check: []int{0, 1, 1, 0, 2, 3}, Next: []int{1, 1, 1, 1, 2, 1}}},
		{"a base below an earlier one", [][]int{{1, 0, 1, 1}, {1, 1, 1, 0}, {0, 3, 0, 0}},
			pack.Packed{Width: 4, Usual: []int{1, 1, 0}, Base: []int{0, 0, 1}, Check: []int{-1, 0, 2, 1}, Next: []int{0, 0, 3, 0}}},
		{"free slots between", [][]int{{0, 0, 0, 4}, {0, 0, 0, 5}},
			pack.Packed{Width: 4, Usual: []int{0, 0}, Base: []int{0, 1}, Check: []int{-1, -1, -1, 0, 1}, Next: []int{0, 0, 0, 4, 5}}},
		{"a row without columns behind others", [][]int{{1, 2, 3, 4}, {6, 6, 6, 6}, {1, 2, 3, 4}},
			pack.Packed{Width: 4, Usual: []int{1, 6, 1}, Base: []int{0, 0, 3}, Check: []int{-1, 0, 0, 0, 2, 2, 2}, Next: []int{0, 2, 3, 4, 2, 3, 4}}},
	} {
		if p, err := pack.Pack(4, x.rows...); err != api.OK || !same(p, x.want) {
			t.Errorf("%s: %v, %d, not %v", x.what, p, err, x.want)
		}
		holdPack(t, 4, x.rows...)
		hold(t, x.what, x.want, true)
	}
}

// TestSmall packs all rows of few columns and elements.
func TestSmall(t *testing.T) {
	for width := 1; width <= 4; width++ {
		var all [][]int
		for number := range 1 << (2 * width) {
			row := make([]int, width)
			for column := range row {
				row[column] = number >> (2 * column) & 3
			}
			// Of four columns and more, only two elements, so that there are not too many rows.
			if width < 4 || slices.Max(row) < 2 {
				all = append(all, row)
			}
		}
		for _, a := range all {
			holdPack(t, width, a)
			for _, b := range all {
				holdPack(t, width, a, b)
				for _, c := range all[:min(len(all), 16)] {
					holdPack(t, width, a, b, c)
				}
			}
		}
	}
}

// TestRandom packs rows of any width, with few or many columns that have a slot.
func TestRandom(t *testing.T) {
	rng := rand.New(rand.NewSource(12))
	for range 1500 {
		width := 1 + rng.Intn(64)
		holdPack(t, width, randomRows(rng, width, rng.Intn(30), 1+rng.Intn(4), 1+rng.Intn(10))...)
	}
	for range 200 {
		width := 1 + rng.Intn(12)
		p, _ := pack.Pack(width, randomRows(rng, width, rng.Intn(12), 1+rng.Intn(4), 1+rng.Intn(10))...)
		hold(t, "packed rows", p, true)
	}
	for range 100 {
		width := []int{1, 2, 63, 64}[rng.Intn(4)]
		holdPack(t, width, randomRows(rng, width, rng.Intn(100), 65536, 1+rng.Intn(40))...)
	}
}

// TestWords has rows whose slots lie around the multiples of 64.
func TestWords(t *testing.T) {
	full := distinct(64, 0)
	for alone := range 64 {
		row := make([]int, 64)
		row[alone] = 9
		two := slices.Clone(row)
		two[63-alone] = 8
		holdPack(t, 64, full, row, full, two, row, full, two, two)
		holdPack(t, 64, row, row, row, full, two, full, row, row)
		holdPack(t, 64, two, full, two, row, full, full)
	}
	for width := 1; width <= 64; width++ {
		holdPack(t, width, slices.Repeat([][]int{distinct(width, 3)}, 10)...)
	}
}

// TestMostRows has as many rows as can be, whose elements are all different: there can't be more slots.
func TestMostRows(t *testing.T) {
	rows := slices.Repeat([][]int{distinct(64, 65472)}, api.MaxStates)
	p, err := pack.Pack(64, rows...)
	if err != api.OK || !pack.Right(p) || len(p.Check) != 63001 || p.Base[999] != 62937 {
		t.Fatal(err, len(p.Check))
	}
	if got, ok := pack.Rows(p); !ok || !slices.EqualFunc(got, rows, slices.Equal) {
		t.Error("full rows")
	}
	for row := range rows {
		if p.Usual[row] != 65472 || p.Base[row] != 63*row || p.Check[63*row+1] != row || p.Check[63*row+63] != row {
			t.Fatal(row)
		}
	}
	rng := rand.New(rand.NewSource(121))
	holdPack(t, 5, randomRows(rng, 5, api.MaxStates, 3, 9)...)
	holdPack(t, 1, randomRows(rng, 1, api.MaxStates, 65536, 1)...)
	// Each base is tried for many rows, none of which fits between others.
	gaps := make([]int, 64)
	for column := range 32 {
		gaps[2*column] = 1 + column
	}
	gaps[63] = 50
	rows = slices.Repeat([][]int{gaps}, api.MaxStates)
	p, err = pack.Pack(64, rows...)
	if got, ok := pack.Rows(p); err != api.OK || !ok || !slices.EqualFunc(got, rows, slices.Equal) {
		t.Error("rows with gaps", err)
	}
}

func TestPackWrong(t *testing.T) {
	for _, width := range []int{math.MinInt, -64, -1, 0, 65, 66, 128, math.MaxInt} {
		holdWrong(t, "no rows", width)
		holdWrong(t, "an empty row", width, []int{})
		holdWrong(t, "a row", width, []int{1, 2})
		if 0 < width && width < 1000 {
			holdWrong(t, "a row of that width", width, make([]int, width))
		}
	}
	holdPack(t, 1)
	holdPack(t, 64)
	holdPack(t, 1, []int{4})
	holdPack(t, 64, distinct(64, 1))
	good := []int{5, 6, 5}
	for _, bad := range [][]int{nil, {}, {5}, {5, 6}, {5, 6, 5, 5}, distinct(64, 0), make([]int, 3)[:2],
		{-1, 5, 5}, {5, -1, 5}, {5, 5, -1}, {65536, 5, 5}, {5, 65536, 5}, {5, 5, 65536}, {-1, -1, -1}, {65536, 65536, 65536},
		{math.MinInt, 5, 5}, {5, 5, math.MaxInt}, {1 << 32, 5, 5}, {5, 1<<32 + 5, 5}} {
		holdWrong(t, "one", 3, bad)
		holdWrong(t, "the first", 3, bad, good, good)
		holdWrong(t, "one between", 3, good, bad, good)
		holdWrong(t, "the last", 3, good, good, bad)
	}
	holdPack(t, 3, []int{0, 65535, 0}, []int{65535, 0, 65535}, []int{65535, 65535, 65535})
}

// TestPackMany has as many rows as can be, and more.
func TestPackMany(t *testing.T) {
	for _, count := range []int{999, 1000, 1001, 1002, 70000} {
		for _, row := range [][]int{{5, 5}, {5, 6}} {
			rows := slices.Repeat([][]int{row}, count)
			if count > api.MaxStates {
				holdWrong(t, "too many rows", 2, rows...)
			} else {
				holdPack(t, 2, rows...)
			}
		}
	}
}

// small is valid packed rows that Pack has made: of 1 2 2, 2 3 2 and 4 4 4.
func small(t *testing.T) pack.Packed {
	t.Helper()
	p, err := pack.Pack(3, []int{1, 2, 2}, []int{2, 3, 2}, []int{4, 4, 4})
	want := pack.Packed{Width: 3, Usual: []int{2, 2, 4}, Base: []int{0, 0, 0}, Check: []int{0, 1}, Next: []int{1, 3}}
	if err != api.OK || !same(p, want) {
		t.Fatal(p, err)
	}
	return p
}

func TestWidth(t *testing.T) {
	for _, width := range []int{math.MinInt, -64, -1, 0, 1, 2, 3, 4, 63, 64, 65, 66, 128, math.MaxInt} {
		isValid := 1 <= width && width <= 64
		p := small(t)
		p.Width = width
		hold(t, "width "+strconv.Itoa(width), p, isValid)
		hold(t, "no rows, width "+strconv.Itoa(width), pack.Packed{Width: width}, isValid)
	}
	hold(t, "nothing", pack.Packed{}, false)
}

// TestElements has each element of each list changed, to the edges and beyond them.
func TestElements(t *testing.T) {
	p := small(t)
	for list, l := range lists(&p) {
		for at := range *l {
			for _, n := range []int{math.MinInt, -65536, -3, -2, -1, 0, 1, 2, 3, 4, 1000, 65534, 65535, 65536, 65537, 1 << 32, math.MaxInt} {
				isValid := 0 <= n && n <= 65535
				if list == 2 {
					isValid = -1 <= n && n <= 2
				}
				other := copied(p)
				(*lists(&other)[list])[at] = n
				hold(t, strconv.Itoa(list)+" has "+strconv.Itoa(n), other, isValid)
			}
		}
	}
	// Without rows, no slot can be used.
	for n, isValid := range map[int]bool{-2: false, -1: true, 0: false, 1: false} {
		hold(t, "no rows", pack.Packed{Width: 3, Check: []int{-1, n}, Next: []int{9, 9}}, isValid)
	}
}

// TestLengths has lists that are too short or too long.
func TestLengths(t *testing.T) {
	for list := range 4 {
		p := small(t)
		l := lists(&p)[list]
		*l = (*l)[:len(*l)-1]
		hold(t, "a list less long", p, false)
		p = small(t)
		l = lists(&p)[list]
		*l = append(*l, 0)
		hold(t, "a longer list", p, false)
		p = small(t)
		*lists(&p)[list] = nil
		hold(t, "no list", p, false)
	}
	p := small(t)
	p.Check, p.Next = append(p.Check, -1, -1, 2), append(p.Next, 0, 65535, 7)
	hold(t, "more slots", p, true)
	p = small(t)
	p.Check, p.Next = nil, nil
	hold(t, "no slots", p, true)
	p = small(t)
	p.Usual, p.Base = append(p.Usual, 0), append(p.Base, 65535)
	hold(t, "a row more", p, true)
	p = small(t)
	p.Usual, p.Base = p.Usual[:1], p.Base[:1]
	hold(t, "slots of a row that isn't there", p, false)
}

func TestManyRows(t *testing.T) {
	for _, count := range []int{0, 1, 999, 1000, 1001, 70000} {
		p := pack.Packed{Width: 1, Usual: make([]int, count), Base: make([]int, count)}
		hold(t, strconv.Itoa(count)+" rows", p, count <= api.MaxStates)
	}
	p := pack.Packed{Width: 1, Usual: make([]int, 1000), Base: make([]int, 1000), Check: []int{999}, Next: []int{8}}
	hold(t, "a slot of the last row", p, true)
	p.Check[0] = 1000
	hold(t, "a slot of one more", p, false)
}

// TestManySlots has as many slots as can be, and more; the last one is the last row's, by the greatest base.
func TestManySlots(t *testing.T) {
	for _, count := range []int{65535, 65536, 65598, 65599, 65600, 65601, 200000} {
		p := pack.Packed{Width: 64, Usual: []int{3, 4}, Base: []int{0, 65535}, Check: slices.Repeat([]int{-1}, count), Next: make([]int, count)}
		p.Check[count-1], p.Next[count-1] = 1, 65535
		isValid := count <= 65599
		if pack.Right(p) != isValid {
			t.Error(count)
		}
		if !isValid {
			holdNone(t, strconv.Itoa(count), p)
			continue
		}
		rows, ok := pack.Rows(p)
		want := [][]int{slices.Repeat([]int{3}, 64), slices.Repeat([]int{4}, 64)}
		if column := count - 1 - 65535; column >= 0 {
			want[1][column] = 65535
			if got, ok := pack.Get(p, 1, column); got != 65535 || !ok {
				t.Error(count, got, ok)
			}
		}
		if !ok || !slices.EqualFunc(rows, want, slices.Equal) {
			t.Error(count, rows, ok)
		}
	}
}

// TestOther has valid packed rows that Pack would not have made.
func TestOther(t *testing.T) {
	p := pack.Packed{
		Width: 3,
		Usual: []int{7, 7, 8, 9, 6},
		Base:  []int{2, 4, 4, 65535, 0},
		Check: []int{4, -1, 0, 1, 1, 2, 0, 3},
		Next:  []int{6, 5, 7, 1, 2, 3, 4, 5},
	}
	hold(t, "a mess", p, true)
	// Row 0 has slot 2, whose element is the usual one too; slot 6 is its own, but none of its columns' slots. Slots 3, 4
	// and 7 are other rows'. Slot 1 is free, though its Next isn't 0. Row 3 has no slot at all.
	want := [][]int{{7, 7, 7}, {2, 7, 7}, {8, 3, 8}, {9, 9, 9}, {6, 6, 6}}
	if got, ok := pack.Rows(p); !ok || !slices.EqualFunc(got, want, slices.Equal) {
		t.Error(got, ok)
	}
	rng := rand.New(rand.NewSource(122))
	for range 5000 {
		p := randomPacked(rng)
		hold(t, "random", p, true)
		l := lists(&p)[rng.Intn(4)]
		if len(*l) == 0 {
			continue
		}
		(*l)[rng.Intn(len(*l))] = []int{-2, 65536}[rng.Intn(2)]
		hold(t, "random, changed", p, false)
	}
}

func TestSame(t *testing.T) {
	p := small(t)
	if !pack.Same(p, p) || !pack.Same(p, copied(p)) || !pack.Same(pack.Packed{}, pack.Packed{}) {
		t.Error("equal ones")
	}
	empty := pack.Packed{Usual: []int{}, Base: []int{}, Check: []int{}, Next: []int{}}
	if !pack.Same(pack.Packed{}, empty) || !pack.Same(empty, pack.Packed{}) || pack.Same(p, empty) || pack.Same(empty, p) {
		t.Error("empty ones")
	}
	differ := func(what string, change func(p *pack.Packed)) {
		other := copied(p)
		change(&other)
		if pack.Same(p, other) || pack.Same(other, p) {
			t.Error(what)
		}
		if !pack.Same(other, copied(other)) {
			t.Error(what, "by itself")
		}
	}
	differ("Width", func(p *pack.Packed) { p.Width = 4 })
	differ("no Width", func(p *pack.Packed) { p.Width = 0 })
	for list, l := range lists(&p) {
		for at := range *l {
			differ("an element", func(p *pack.Packed) { (*lists(p)[list])[at]++ })
			differ("an element that may not be", func(p *pack.Packed) { (*lists(p)[list])[at] = -9 })
		}
		differ("less", func(p *pack.Packed) { x := lists(p)[list]; *x = (*x)[:len(*x)-1] })
		differ("more", func(p *pack.Packed) { x := lists(p)[list]; *x = append(*x, 0) })
		differ("none", func(p *pack.Packed) { *lists(p)[list] = nil })
	}
	// What has the same rows may be packed in different ways.
	other := copied(p)
	other.Base[2] = 1
	if pack.Same(p, other) {
		t.Error("another base of a row without slots")
	}
}

// spoil overwrites a list and its spare capacity.
func spoil[T any](l []T) {
	clear(l[:cap(l)])
}

// TestShares changes what was answered: neither what was given nor another answer may change with it, nor another list.
func TestShares(t *testing.T) {
	rows := [][]int{{1, 2, 2}, {2, 3, 2}, {4, 4, 4}}
	want := small(t)
	p, _ := pack.Pack(3, rows...)
	for list, l := range lists(&p) {
		spoil(*l)
		for later := list + 1; later < 4; later++ {
			if !slices.Equal(*lists(&p)[later], *lists(&want)[later]) {
				t.Error("lists", list, later)
			}
		}
	}
	if !same(small(t), want) || !slices.EqualFunc(rows, [][]int{{1, 2, 2}, {2, 3, 2}, {4, 4, 4}}, slices.Equal) {
		t.Error("Pack", rows)
	}
	p = small(t)
	got, _ := pack.Rows(p)
	for row := range got {
		spoil(got[row])
		for other := row + 1; other < 3; other++ {
			if !slices.Equal(got[other], rows[other]) {
				t.Error("rows", row, other)
			}
		}
	}
	spoil(got)
	if again, ok := pack.Rows(p); !ok || !slices.EqualFunc(again, rows, slices.Equal) || !same(p, want) {
		t.Error("Rows", again, p)
	}
}

// TestGiven holds that what was given stays as it was, with its spare capacity.
func TestGiven(t *testing.T) {
	rows := [][]int{{1, 2, 2, 71}, {2, 3, 2, 72}, {4, 4, 4, 73}, {99}}
	given := [][]int{rows[0][:3], rows[1][:3], rows[2][:3], rows[3]}
	p, _ := pack.Pack(3, given[:3]...)
	if !slices.EqualFunc(rows, [][]int{{1, 2, 2, 71}, {2, 3, 2, 72}, {4, 4, 4, 73}, {99}}, slices.Equal) || len(given[3]) != 1 {
		t.Error(rows)
	}
	for _, l := range lists(&p) {
		*l = append(*l, 88)[:len(*l)]
	}
	want := copied(p)
	pack.Right(p)
	pack.Get(p, 1, 1)
	pack.Get(p, 3, 3)
	pack.Rows(p)
	pack.Same(p, p)
	for list, l := range lists(&p) {
		if (*l)[:len(*l)+1][len(*l)] != 88 {
			t.Error("spare", list)
		}
	}
	if !same(p, want) {
		t.Error(p)
	}
}
