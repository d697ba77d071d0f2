package pack_test

import (
	"math/rand"
	"slices"
	"testing"

	"virgule/api"
	"virgule/pack"
)

// entry is what a slot contains.
type entry struct{ row, element int }

// usual is a row's usual element: of all numbers that are in it, the most frequent one, and of these the least.
func usual(row []int) int {
	sorted := slices.Clone(row)
	slices.Sort(sorted)
	best, most := 0, 0
	for _, element := range sorted {
		count := 0
		for _, other := range row {
			if other == element {
				count++
			}
		}
		if count > most {
			best, most = element, count
		}
	}
	return best
}

// fits tells whether the slots of a row's columns whose element isn't the usual one are free.
func fits(used map[int]entry, row []int, most, base int) bool {
	for column, element := range row {
		if _, ok := used[base+column]; ok && element != most {
			return false
		}
	}
	return true
}

// packed is the packed rows of valid ones, by the chapter's words.
func packed(width int, rows [][]int) pack.Packed {
	p := pack.Packed{Width: width}
	used := map[int]entry{}
	last := -1
	for number, row := range rows {
		base, most := 0, usual(row)
		for !fits(used, row, most, base) {
			base++
		}
		for column, element := range row {
			if element != most {
				used[base+column] = entry{number, element}
				last = max(last, base+column)
			}
		}
		p.Usual, p.Base = append(p.Usual, most), append(p.Base, base)
	}
	for slot := range last + 1 {
		x, ok := used[slot]
		if !ok {
			x.row = -1
		}
		p.Check, p.Next = append(p.Check, x.row), append(p.Next, x.element)
	}
	return p
}

// right tells whether packed rows are valid.
func right(p pack.Packed) bool {
	if p.Width < 1 || p.Width > 64 || len(p.Base) != len(p.Usual) || len(p.Usual) > 1000 {
		return false
	}
	if len(p.Check) != len(p.Next) || len(p.Check) > 65599 {
		return false
	}
	for _, l := range [][]int{p.Usual, p.Base, p.Next} {
		for _, n := range l {
			if n < 0 || n > 65535 {
				return false
			}
		}
	}
	for _, row := range p.Check {
		if row < -1 || row >= len(p.Usual) {
			return false
		}
	}
	return true
}

// element is an element of valid packed rows.
func element(p pack.Packed, row, column int) int {
	for slot, next := range p.Next {
		if slot == p.Base[row]+column && p.Check[slot] == row {
			return next
		}
	}
	return p.Usual[row]
}

// outside is numbers that are no rows or columns, if there are so many of them.
func outside(count int) []int {
	return []int{-1 << 63, -1000, -2, -1, count, count + 1, count + 64, 70000, 1<<63 - 1}
}

// hold holds what is answered of packed rows against the chapter's terms, and whether they are valid.
func hold(t *testing.T, what string, p pack.Packed, isValid bool) {
	t.Helper()
	if right(p) != isValid {
		t.Fatalf("%s: the test itself is wrong", what)
	}
	if got := pack.Right(p); got != isValid {
		t.Fatalf("%s: Right: %t", what, got)
	}
	if !isValid {
		holdNone(t, what, p)
		return
	}
	rows, ok := pack.Rows(p)
	if !ok || len(rows) != len(p.Usual) {
		t.Fatalf("%s: Rows: %d, %t", what, rows, ok)
	}
	for row := range rows {
		if len(rows[row]) != p.Width {
			t.Fatalf("%s: Rows: %d", what, rows[row])
		}
		for column := range p.Width {
			want := element(p, row, column)
			if got, ok := pack.Get(p, row, column); got != want || !ok || rows[row][column] != want {
				t.Fatalf("%s: Get %d, %d: %d, %t; Rows %d; not %d", what, row, column, got, ok, rows[row][column], want)
			}
		}
	}
	holdOutside(t, what, p)
}

// holdOutside asks valid packed rows for what isn't there.
func holdOutside(t *testing.T, what string, p pack.Packed) {
	t.Helper()
	rows := append(outside(len(p.Usual)), 0, len(p.Usual)-1)
	columns := append(outside(p.Width), 0, p.Width-1)
	for _, row := range rows {
		for _, column := range columns {
			isThere := 0 <= row && row < len(p.Usual) && 0 <= column && column < p.Width
			if got, ok := pack.Get(p, row, column); ok != isThere || (!ok && got != 0) {
				t.Fatalf("%s: Get %d, %d: %d, %t", what, row, column, got, ok)
			}
		}
	}
}

// holdNone asks packed rows that are not valid.
func holdNone(t *testing.T, what string, p pack.Packed) {
	t.Helper()
	if rows, ok := pack.Rows(p); len(rows) != 0 || ok {
		t.Fatalf("%s: Rows: %d, %t", what, rows, ok)
	}
	for row := -1; row < 4; row++ {
		for column := -1; column < 4; column++ {
			if got, ok := pack.Get(p, row, column); got != 0 || ok {
				t.Fatalf("%s: Get %d, %d: %d, %t", what, row, column, got, ok)
			}
		}
	}
}

// holdPack holds Pack of valid rows against the chapter's terms, and that the rows can be retrieved.
func holdPack(t *testing.T, width int, rows ...[]int) {
	t.Helper()
	p, err := pack.Pack(width, rows...)
	if want := packed(width, rows); err != api.OK || !same(p, want) || !pack.Same(p, want) || !pack.Same(want, p) {
		t.Fatalf("Pack %d, %d: %d, %v, not %v", width, rows, err, p, want)
	}
	if got, ok := pack.Rows(p); !pack.Right(p) || !ok || !slices.EqualFunc(got, rows, slices.Equal) {
		t.Fatalf("Rows of %v: %d, %t, not %d", p, got, ok, rows)
	}
}

// holdWrong holds Pack of rows that are not valid.
func holdWrong(t *testing.T, what string, width int, rows ...[]int) {
	t.Helper()
	if p, err := pack.Pack(width, rows...); err != api.ErrArg || !same(p, pack.Packed{}) {
		t.Errorf("%s: %d, %v", what, err, p)
	}
}

// same tells whether packed rows are equal element by element.
func same(a, b pack.Packed) bool {
	x, y := lists(&a), lists(&b)
	for i := range x {
		if !slices.Equal(*x[i], *y[i]) {
			return false
		}
	}
	return a.Width == b.Width
}

// lists is the four lists of packed rows.
func lists(p *pack.Packed) [4]*[]int {
	return [4]*[]int{&p.Usual, &p.Base, &p.Check, &p.Next}
}

// copied is packed rows by themselves.
func copied(p pack.Packed) pack.Packed {
	for _, l := range lists(&p) {
		*l = slices.Clone(*l)
	}
	return p
}

// randomRows is some valid rows, in which some of the elements are the same.
func randomRows(rng *rand.Rand, width, count, elements, often int) [][]int {
	var out [][]int
	for range count {
		row := slices.Repeat([]int{rng.Intn(elements)}, width)
		for column := range row {
			if rng.Intn(often) == 0 {
				row[column] = rng.Intn(elements)
			}
		}
		out = append(out, row)
	}
	return out
}

// randomPacked is some valid packed rows, seldom such that Pack would have made them.
func randomPacked(rng *rand.Rand) pack.Packed {
	p := pack.Packed{Width: 1 + rng.Intn(6)}
	rows, slots := rng.Intn(6), rng.Intn(20)
	for range rows {
		p.Usual, p.Base = append(p.Usual, rng.Intn(65536)), append(p.Base, rng.Intn(slots+3))
	}
	for range slots {
		p.Check, p.Next = append(p.Check, rng.Intn(rows+1)-1), append(p.Next, rng.Intn(65536))
	}
	return p
}
