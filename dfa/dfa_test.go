package dfa_test

import (
	"math"
	"slices"
	"testing"

	"virgule/api"
	"virgule/dfa"
)

// ring is a table of states of which each leads to the next one by a symbol, and to itself by the others.
func ring(count, mark int) dfa.DFA {
	var d dfa.DFA
	for state := range count {
		d.Next = append(d.Next, row(state, map[int]int{mark: (state + 1) % count}))
		d.Tells = append(d.Tells, uint64(state))
	}
	return d
}

// wrong is tables that are not valid; each of their first states is there.
func wrong() map[string]dfa.DFA {
	out := map[string]dfa.DFA{
		"no state":            {},
		"no state, but lists": {Next: [][]int{}, Tells: []uint64{}},
		"no state, but Tells": {Tells: []uint64{1}},
		"no Tells":            {Next: [][]int{row(0, nil)}},
		"one state more":      ring(api.MaxStates+1, 0),
		"many states":         ring(3000, 0),
	}
	add := func(what string, change func(d *dfa.DFA)) {
		d := ring(3, classL)
		change(&d)
		out[what] = d
	}
	add("less Tells", func(d *dfa.DFA) { d.Tells = d.Tells[:2] })
	add("more Tells", func(d *dfa.DFA) { d.Tells = append(d.Tells, 0) })
	add("less rows", func(d *dfa.DFA) { d.Next = d.Next[:2] })
	add("no row", func(d *dfa.DFA) { d.Next[1] = nil })
	add("a row less long", func(d *dfa.DFA) { d.Next[2] = d.Next[2][:36] })
	add("a first row less long", func(d *dfa.DFA) { d.Next[0] = d.Next[0][:36] })
	add("a longer row", func(d *dfa.DFA) { d.Next[1] = append(d.Next[1], 0) })
	add("a state below 0", func(d *dfa.DFA) { d.Next[0][0] = -1 })
	add("a state behind all", func(d *dfa.DFA) { d.Next[2][36] = 3 })
	add("the greatest state", func(d *dfa.DFA) { d.Next[1][20] = math.MaxInt })
	add("the least state", func(d *dfa.DFA) { d.Next[1][0] = math.MinInt })
	return out
}

// noStates is numbers that are no states of small tables.
func noStates() []int {
	return []int{math.MinInt, -1000, -2, -1, 3, 4, 37, 1000, math.MaxInt}
}

func TestRight(t *testing.T) {
	if dfa.Marks != 37 {
		t.Error(dfa.Marks)
	}
	for _, count := range []int{1, 2, 3, 37, 999, api.MaxStates} {
		if d := ring(count, 36); !dfa.Right(d) {
			t.Error(count)
		}
	}
	spare := ring(3, classL)
	spare.Next, spare.Tells = append(spare.Next, nil)[:3], append(spare.Tells, 7)[:3]
	if !dfa.Right(spare) || !dfa.Right(dfa.DFA{Next: [][]int{row(0, nil)}, Tells: []uint64{math.MaxUint64}}) {
		t.Error("spare capacity, all bits")
	}
	for what, d := range wrong() {
		if dfa.Right(d) {
			t.Error(what)
		}
	}
}

func TestRun(t *testing.T) {
	d := ring(3, classL)
	for _, x := range []struct {
		from  int
		marks []int
		to    int
	}{
		{0, nil, 0}, {1, nil, 1}, {2, []int{}, 2},
		{0, []int{classL}, 1}, {1, []int{classL}, 2}, {2, []int{classL}, 0},
		{0, []int{0}, 0}, {0, []int{start}, 0}, {2, []int{35, classV, 0, start}, 2},
		{0, []int{classL, classV, classL, classL, classL}, 1}, {0, slices.Repeat([]int{classL}, 3001), 1},
	} {
		if got := dfa.Run(d, x.from, x.marks...); got != x.to {
			t.Errorf("from %d by %d: %d, not %d", x.from, x.marks, got, x.to)
		}
	}
	for _, from := range noStates() {
		for _, marks := range [][]int{nil, {0}, {classL, classL}, {37}} {
			if got := dfa.Run(d, from, marks...); got != -1 {
				t.Errorf("from %d by %d: %d", from, marks, got)
			}
		}
	}
}

func TestRunByNoSymbols(t *testing.T) {
	d := ring(3, classL)
	for _, mark := range []int{math.MinInt, -37, -1, 37, 38, 40, 64, math.MaxInt} {
		for _, marks := range [][]int{{mark}, {mark, 0}, {classL, mark}, {0, mark, classL}, {mark, mark}} {
			if got := dfa.Run(d, 0, marks...); got != -1 {
				t.Errorf("by %d: %d", marks, got)
			}
		}
	}
}

func TestTells(t *testing.T) {
	d := ring(3, classL)
	d.Tells = []uint64{5, 0, math.MaxUint64}
	for state, want := range d.Tells {
		if got := dfa.Tells(d, state); got != want {
			t.Errorf("%d: %d, not %d", state, got, want)
		}
	}
	for _, state := range noStates() {
		if got := dfa.Tells(d, state); got != 0 {
			t.Errorf("%d: %d", state, got)
		}
	}
}

// TestWrong asks tables that are not valid.
func TestWrong(t *testing.T) {
	for what, d := range wrong() {
		for i := range d.Tells {
			d.Tells[i] = 9
		}
		for state := -1; state < 4; state++ {
			if got := dfa.Run(d, state); got != -1 {
				t.Errorf("%s: Run from %d: %d", what, state, got)
			}
			if got := dfa.Run(d, state, classL, classV); got != -1 {
				t.Errorf("%s: Run by symbols from %d: %d", what, state, got)
			}
			if got := dfa.Tells(d, state); got != 0 {
				t.Errorf("%s: Tells of %d: %d", what, state, got)
			}
		}
		if got := dfa.Reached(d); len(got) != 0 {
			t.Errorf("%s: Reached: %d", what, got)
		}
	}
}

func TestReached(t *testing.T) {
	alone := row(0, nil)
	for _, x := range []struct {
		next [][]int
		want []int
	}{
		{[][]int{alone}, []int{0}},
		{[][]int{alone, alone, row(1, nil)}, []int{0}},
		{[][]int{row(2, nil), row(0, nil), row(2, nil)}, []int{0, 2}},
		{[][]int{row(0, map[int]int{36: 1}), row(1, nil)}, []int{0, 1}},
		// Found in the order 0, 4, 2, 5, 1; 3 leads to all, but nothing to it.
		{[][]int{row(4, map[int]int{5: 2}), row(1, nil), row(1, nil), row(3, map[int]int{1: 0, 2: 1}), row(5, nil), row(5, nil)}, []int{0, 1, 2, 4, 5}},
	} {
		d := dfa.DFA{Next: x.next, Tells: make([]uint64, len(x.next))}
		if got := dfa.Reached(d); !slices.Equal(got, x.want) {
			t.Error(got, x.want)
		}
	}
	full := ring(api.MaxStates, 17)
	if got := dfa.Reached(full); len(got) != api.MaxStates || !slices.IsSorted(got) || got[999] != 999 {
		t.Error(got)
	}
	full.Next[500] = row(0, nil)
	if got := dfa.Reached(full); len(got) != 501 || got[500] != 500 {
		t.Error(got)
	}
}

func TestSame(t *testing.T) {
	d := ring(3, classL)
	if !dfa.Same(d, d) || !dfa.Same(d, copied(d)) {
		t.Error("equal tables")
	}
	differ := func(what string, change func(d *dfa.DFA)) {
		other := copied(d)
		change(&other)
		if dfa.Same(d, other) || dfa.Same(other, d) {
			t.Error(what)
		}
	}
	for state := range 3 {
		differ("Tells", func(x *dfa.DFA) { x.Tells[state] ^= 1 << 63 })
		for mark := range 37 {
			differ("an element", func(x *dfa.DFA) { x.Next[state][mark]++ })
		}
		differ("a row less long", func(x *dfa.DFA) { x.Next[state] = x.Next[state][:36] })
		differ("a longer row", func(x *dfa.DFA) { x.Next[state] = append(x.Next[state], 0) })
		differ("no row", func(x *dfa.DFA) { x.Next[state] = nil })
	}
	differ("less rows", func(x *dfa.DFA) { x.Next = x.Next[:2] })
	differ("more rows", func(x *dfa.DFA) { x.Next = append(x.Next, nil) })
	differ("less Tells", func(x *dfa.DFA) { x.Tells = x.Tells[:2] })
	differ("more Tells", func(x *dfa.DFA) { x.Tells = append(x.Tells, 0) })
	differ("nothing", func(x *dfa.DFA) { *x = dfa.DFA{} })
}

// TestSameWrong compares tables that are not valid, too.
func TestSameWrong(t *testing.T) {
	for what, d := range wrong() {
		if !dfa.Same(d, d) || !dfa.Same(d, copied(d)) {
			t.Error(what)
		}
	}
	if !dfa.Same(dfa.DFA{}, dfa.DFA{Next: [][]int{}, Tells: []uint64{}}) {
		t.Error("empty lists")
	}
	if !dfa.Same(dfa.DFA{Next: [][]int{nil}}, dfa.DFA{Next: [][]int{{}}}) || dfa.Same(dfa.DFA{Next: [][]int{nil}}, dfa.DFA{}) {
		t.Error("empty rows")
	}
}

// TestGiven holds that what was given stays as it was, and that an answer shares nothing with it.
func TestGiven(t *testing.T) {
	d := ring(5, classL)
	d.Next, d.Tells = append(d.Next, row(9, nil))[:5], append(d.Tells, 77)[:5]
	d.Next[2] = append(d.Next[2], 88)[:37]
	want, marks := copied(d), []int{classL, 0, classL, 99}
	dfa.Right(d)
	dfa.Run(d, 0, marks[:3]...)
	dfa.Tells(d, 1)
	dfa.Same(d, want)
	first, second := dfa.Reached(d), dfa.Reached(d)
	spoil(first)
	if !slices.Equal(second, []int{0, 1, 2, 3, 4}) {
		t.Error("Reached", second)
	}
	isKept := slices.Equal(d.Next[:6][5], row(9, nil)) && d.Tells[:6][5] == 77 && d.Next[2][:38][37] == 88
	if !dfa.Same(d, want) || !isKept || !slices.Equal(marks, []int{classL, 0, classL, 99}) {
		t.Error(d, marks)
	}
}
