package squeeze_test

import (
	"math"
	"math/rand"
	"slices"
	"strconv"
	"testing"

	"virgule/api"
	"virgule/dfa"
	"virgule/expr"
	"virgule/least"
	"virgule/nfa"
	"virgule/squeeze"
)

// Symbols that the tests use.
const (
	classCR = 1
	classLF = 2
	classL  = 11
	classV  = 12
	start   = 36
)

// row is a row that leads to one state by most symbols, and to others by some.
func row(most int, others map[int]int) []int {
	out := slices.Repeat([]int{most}, 37)
	for symbol, to := range others {
		out[symbol] = to
	}
	return out
}

// table is a table of rows, whose states accept different things.
func table(rows ...[]int) dfa.DFA {
	d := dfa.DFA{Next: rows}
	for state := range rows {
		d.Tells = append(d.Tells, uint64(state)<<60|uint64(state))
	}
	return d
}

// ring is a table of states of which each leads to the next one by a symbol, and to itself by the others.
func ring(count, symbol int) dfa.DFA {
	var rows [][]int
	for state := range count {
		rows = append(rows, row(state, map[int]int{symbol: (state + 1) % count}))
	}
	return table(rows...)
}

// minimal is the minimal table of the expressions of texts.
func minimal(t *testing.T, search bool, texts ...string) dfa.DFA {
	t.Helper()
	var l []expr.Node
	for _, s := range texts {
		n, at, err := expr.Parse(s)
		if err != api.OK {
			t.Fatalf("Parse(%q): %d at %d", s, err, at)
		}
		l = append(l, n)
	}
	n, err := nfa.New(search, l...)
	if err != api.OK {
		t.Fatalf("nfa.New: %d", err)
	}
	d, err := dfa.New(n)
	if err != api.OK {
		t.Fatalf("dfa.New: %d", err)
	}
	return least.Least(d)
}

// one is the grouping of one group.
func one() []int {
	return make([]int, 37)
}

// each is the grouping of a group for each symbol.
func each() []int {
	var out []int
	for symbol := range 37 {
		out = append(out, symbol)
	}
	return out
}

// wrong is tables that are not valid, although their symbols could be held against each other.
func wrong() map[string]dfa.DFA {
	out := map[string]dfa.DFA{
		"no state":                 {},
		"no state, but Tells":      {Tells: []uint64{1}},
		"no Tells":                 {Next: [][]int{row(0, map[int]int{3: 1}), row(1, nil)}},
		"a state more than can be": ring(api.MaxStates+1, 5),
	}
	add := func(what string, change func(d *dfa.DFA)) {
		d := ring(3, 7)
		change(&d)
		out[what] = d
	}
	add("less Tells", func(d *dfa.DFA) { d.Tells = d.Tells[:2] })
	add("more Tells", func(d *dfa.DFA) { d.Tells = append(d.Tells, 0) })
	add("no row", func(d *dfa.DFA) { d.Next[1] = nil })
	add("a row less long", func(d *dfa.DFA) { d.Next[2] = d.Next[2][:36] })
	add("a longer row", func(d *dfa.DFA) { d.Next[1] = append(d.Next[1], 0) })
	add("a state below 0", func(d *dfa.DFA) { d.Next[0][9] = -1 })
	add("a state behind all", func(d *dfa.DFA) { d.Next[2][start] = 3 })
	add("the greatest state", func(d *dfa.DFA) { d.Next[1][20] = math.MaxInt })
	return out
}

func TestGroupsOfNothing(t *testing.T) {
	var all []dfa.DFA
	for what, d := range wrong() {
		all = append(all, d)
		if got := squeeze.Groups(d); !slices.Equal(got, one()) {
			t.Error(what, got)
		}
	}
	if got := squeeze.Groups(); !slices.Equal(got, one()) {
		t.Error("no tables", got)
	}
	if got := squeeze.Groups(all...); !slices.Equal(got, one()) {
		t.Error("no valid tables", got)
	}
	hold(t)
	hold(t, all...)
}

// TestGroupsAmongWrong has tables that are not valid before, between and behind valid ones.
func TestGroupsAmongWrong(t *testing.T) {
	a, b := ring(3, classL), ring(2, start)
	want := ordered(row(0, map[int]int{classL: 1, start: 2}))
	for what, bad := range wrong() {
		for _, l := range [][]dfa.DFA{{bad, a, b}, {a, bad, b}, {a, b, bad}, {bad, a, bad, bad, b, bad}, {bad, bad, b, a}} {
			if got := squeeze.Groups(l...); !slices.Equal(got, want) {
				t.Error(what, got)
			}
		}
	}
}

func TestGroups(t *testing.T) {
	deep := ring(40, 0)
	deep.Next[39][start] = 0
	for _, x := range []struct {
		what string
		l    []dfa.DFA
		want []int // the symbols' keys
	}{
		{"one state", []dfa.DFA{table(row(0, nil))}, row(0, nil)},
		{"one state, twice", []dfa.DFA{table(row(0, nil)), table(row(0, nil))}, row(0, nil)},
		{"all lead to one state", []dfa.DFA{table(row(1, nil), row(0, nil))}, row(0, nil)},
		{"the first symbol by itself", []dfa.DFA{ring(2, 0)}, row(1, map[int]int{0: 0})},
		{"the last symbol by itself", []dfa.DFA{ring(2, start)}, row(0, map[int]int{start: 1})},
		{"the last state", []dfa.DFA{deep}, row(0, map[int]int{0: 1, start: 2})},
		{"a state that isn't reached", []dfa.DFA{table(row(0, nil), row(0, map[int]int{5: 1}))}, row(0, map[int]int{5: 1})},
		{"another state in another row", []dfa.DFA{table(row(0, map[int]int{5: 1, 6: 1}), row(0, map[int]int{6: 1, 7: 1}))},
			row(0, map[int]int{5: 1, 6: 2, 7: 3})},
		{"the second table", []dfa.DFA{table(row(0, nil)), ring(2, 9)}, row(0, map[int]int{9: 1})},
		{"the first table", []dfa.DFA{ring(2, 9), table(row(0, nil))}, row(0, map[int]int{9: 1})},
		{"the symbols in their order, not the tables", []dfa.DFA{ring(2, 9), ring(2, 8)}, row(0, map[int]int{8: 1, 9: 2})},
		{"symbols together in one table, apart in another", []dfa.DFA{
			table(row(0, map[int]int{5: 1, 6: 1}), row(0, nil)), table(row(0, map[int]int{6: 1, 7: 1}), row(0, nil))},
			row(0, map[int]int{5: 1, 6: 2, 7: 3})},
	} {
		if got := squeeze.Groups(x.l...); !slices.Equal(got, ordered(x.want)) {
			t.Errorf("%s: %d, not %d", x.what, got, ordered(x.want))
		}
		hold(t, x.l...)
	}
}

// TestColumns has columns that are different, although their states' digits or lowest bits are the same.
func TestColumns(t *testing.T) {
	d := ring(600, 0)
	d.Next[0], d.Next[1] = row(1, map[int]int{4: 11, 5: 111}), row(111, map[int]int{4: 11, 5: 1})
	hold(t, d)
	if got := squeeze.Groups(d); got[3] == got[4] || got[3] == got[5] || got[4] == got[5] {
		t.Error("digits", got)
	}
	d.Next[0], d.Next[1] = row(3, map[int]int{4: 259, 5: 515}), row(3, nil)
	hold(t, d)
	if got := squeeze.Groups(d); got[3] == got[4] || got[3] == got[5] || got[4] == got[5] {
		t.Error("lowest bits", got)
	}
	d.Next[0], d.Next[1] = row(3, map[int]int{4: 5}), row(5, map[int]int{4: 3})
	hold(t, d)
	if got := squeeze.Groups(d); got[3] == got[4] {
		t.Error("the same states in another order", got)
	}
}

// TestManyTables has a table for each symbol, so that all of them are apart in the end.
func TestManyTables(t *testing.T) {
	var l []dfa.DFA
	for symbol := 36; symbol > 0; symbol-- {
		l = append(l, ring(2, symbol))
		if got := squeeze.Groups(l...); squeeze.Many(got) != len(l)+1 {
			t.Error(symbol, got)
		}
	}
	if got := squeeze.Groups(l...); !slices.Equal(got, each()) {
		t.Error(got)
	}
	hold(t, l...)
}

// TestRandom holds tables, alone and together, also with wrong ones among them.
func TestRandom(t *testing.T) {
	rng := rand.New(rand.NewSource(11))
	for range 1500 {
		var l []dfa.DFA
		for range rng.Intn(4) {
			d := randomTable(rng, randomGroups(rng, 1+rng.Intn(8)), 1+rng.Intn(6))
			if rng.Intn(4) == 0 {
				d.Next[rng.Intn(len(d.Next))][rng.Intn(37)] = len(d.Next)
			}
			l = append(l, d)
		}
		hold(t, l...)
	}
}

// TestAutomata holds the tables of expressions.
func TestAutomata(t *testing.T) {
	left := minimal(t, true, "CR", "L", "^ V*", "(L|V) LF?")
	right := minimal(t, false, "LF", "L|V", "any", "~Other V")
	hold(t, left)
	hold(t, right)
	hold(t, left, right)
	got := squeeze.Groups(left, right)
	if many := squeeze.Many(got); many != 7 {
		t.Error("groups of the start, Other, CR, LF, L, V, and the rest", many, got)
	}
	if got[classCR] == got[classLF] || got[classL] == got[classV] || got[3] != got[4] || got[start] == got[0] {
		t.Error(got)
	}
}

// TestMostStates has as many states as can be.
func TestMostStates(t *testing.T) {
	rng := rand.New(rand.NewSource(111))
	hold(t, randomTable(rng, each(), api.MaxStates))
	hold(t, ring(api.MaxStates, 17), ring(api.MaxStates, 18))
	d := randomTable(rng, randomGroups(rng, 3), api.MaxStates)
	d.Next[999][20] = (d.Next[999][20] + 1) % api.MaxStates
	hold(t, d)
	if got := squeeze.Groups(d); squeeze.Many(got) != 4 {
		t.Error(got)
	}
}

// changed is a list with another element.
func changed(l []int, at, to int) []int {
	out := slices.Clone(l)
	out[at] = to
	return out
}

// wrongGroups is groupings that are not valid.
func wrongGroups() map[string][]int {
	two := row(0, map[int]int{9: 1, 10: 1})
	return map[string][]int{
		"none":                             nil,
		"no numbers":                       {},
		"one":                              {0},
		"two":                              {0, 1},
		"36 numbers":                       make([]int, 36),
		"38 numbers":                       make([]int, 38),
		"36 numbers, with spare ones":      make([]int, 37)[:36],
		"many numbers":                     make([]int, 5000),
		"36 groups":                        each()[:36],
		"38 groups":                        append(each(), 37),
		"the first symbol has 1":           changed(one(), 0, 1),
		"all symbols have 1":               row(1, nil),
		"the first symbol has 1, others 0": row(0, map[int]int{0: 1, 1: 1}),
		"the first symbol has -1":          changed(one(), 0, -1),
		"all symbols have -1":              row(-1, nil),
		"a number below 0":                 changed(two, 20, -1),
		"the least number":                 changed(two, 36, math.MinInt),
		"a number skipped":                 changed(two, 20, 3),
		"the first other one skips 1":      changed(one(), 1, 2),
		"the last one skips 1":             changed(one(), 36, 2),
		"a number in the wrong order":      row(0, map[int]int{3: 2, 4: 1}),
		"a number that comes only later":   row(0, map[int]int{3: 1, 4: 3, 5: 2}),
		"the last group's number is 37":    changed(each(), 36, 37),
		"the greatest number":              changed(two, 11, math.MaxInt),
	}
}

func TestMany(t *testing.T) {
	for what, groups := range wrongGroups() {
		if many(groups) != 0 {
			t.Fatal(what, "the test itself is wrong")
		}
		if got := squeeze.Many(groups); got != 0 {
			t.Error(what, got)
		}
	}
	for _, x := range []struct {
		groups []int
		want   int
	}{
		{one(), 1}, {each(), 37}, {changed(one(), 36, 1), 2}, {changed(one(), 1, 1), 2}, {changed(each(), 36, 35), 36},
		{changed(each(), 36, 0), 36}, {row(1, map[int]int{0: 0}), 2}, {ordered(row(4, map[int]int{3: 1, 9: 2})), 3},
		{append(each(), 99)[:37], 37},
	} {
		if got := squeeze.Many(x.groups); got != x.want {
			t.Error(x.groups, got)
		}
	}
	rng := rand.New(rand.NewSource(112))
	for range 20000 {
		groups := randomGroups(rng, 1+rng.Intn(37))
		if got := squeeze.Many(groups); got == 0 || got != many(groups) {
			t.Fatal(groups, got)
		}
		groups[rng.Intn(37)] = rng.Intn(40) - 1
		if got := squeeze.Many(groups); got != many(groups) {
			t.Fatal(groups, got)
		}
	}
}

// TestMakeWrong has groupings and tables that are not valid; that comes before two symbols that lead to two states.
func TestMakeWrong(t *testing.T) {
	for what, groups := range wrongGroups() {
		for _, d := range []dfa.DFA{ring(3, classL), table(row(0, nil)), {}, ring(api.MaxStates+1, 1)} {
			if n, err := squeeze.Make(groups, d); err != api.ErrArg || !isEmpty(n) {
				t.Error(what, n, err)
			}
		}
	}
	for what, d := range wrong() {
		for _, groups := range [][]int{one(), each(), nil} {
			if n, err := squeeze.Make(groups, d); err != api.ErrArg || !isEmpty(n) {
				t.Error(what, n, err)
			}
		}
	}
}

func TestMakeForm(t *testing.T) {
	for _, d := range []dfa.DFA{ring(2, 0), ring(2, 1), ring(2, classL), ring(3, start), ring(api.MaxStates, 20)} {
		for _, groups := range [][]int{one(), ordered(row(0, map[int]int{3: 1, 4: 1}))} {
			if n, err := squeeze.Make(groups, d); err != api.ErrForm || !isEmpty(n) {
				t.Error(n, err)
			}
			holdMake(t, groups, d)
		}
	}
	// Only the last state, and only one of a group's symbols.
	late := ring(5, 3)
	late.Next[4][36] = 2
	groups := row(0, map[int]int{3: 1})
	if n, err := squeeze.Make(groups, late); err != api.ErrForm || !isEmpty(n) {
		t.Error(n, err)
	}
	groups[36] = 2
	if n, err := squeeze.Make(groups, late); err != api.OK || !slices.Equal(n.Next[4], []int{4, 0, 2}) {
		t.Error(n, err)
	}
	// The symbols lead to one state, but their numbers are in different groups of two states.
	if n, err := squeeze.Make(ordered(row(0, map[int]int{5: 1, 6: 1})), table(row(0, map[int]int{5: 1}), row(1, nil))); err != api.ErrForm || !isEmpty(n) {
		t.Error(n, err)
	}
}

// TestMakeFiner has groupings finer than the table's own.
func TestMakeFiner(t *testing.T) {
	d := ring(3, classL)
	want := squeeze.Narrow{Groups: each(), Next: d.Next, Tells: d.Tells}
	if n, err := squeeze.Make(each(), d); err != api.OK || !same(n, want) {
		t.Error(n, err)
	}
	finer := ordered(row(0, map[int]int{4: 1, classL: 2, start: 3}))
	want = squeeze.Narrow{Groups: finer, Next: [][]int{{0, 0, 1, 0}, {1, 1, 2, 1}, {2, 2, 0, 2}}, Tells: d.Tells}
	if n, err := squeeze.Make(finer, d); err != api.OK || !same(n, want) {
		t.Error(n, err)
	}
	rng := rand.New(rand.NewSource(113))
	for range 3000 {
		groups := randomGroups(rng, 1+rng.Intn(6))
		d := randomTable(rng, groups, 1+rng.Intn(5))
		keys := slices.Clone(groups)
		for range rng.Intn(5) {
			keys[rng.Intn(37)] = 40 + rng.Intn(2)
		}
		holdMake(t, groups, d)
		holdMake(t, ordered(keys), d)
		holdMake(t, each(), d)
		holdMake(t, randomGroups(rng, 37), d)
	}
}

// TestOneState is the chapter's example.
func TestOneState(t *testing.T) {
	d := table(row(0, nil))
	d.Tells[0] = math.MaxUint64
	groups := squeeze.Groups(d)
	n, err := squeeze.Make(groups, d)
	want := squeeze.Narrow{Groups: one(), Next: [][]int{{0}}, Tells: []uint64{math.MaxUint64}}
	if squeeze.Many(groups) != 1 || err != api.OK || !same(n, want) {
		t.Error(groups, n, err)
	}
	if got, ok := squeeze.Wide(n); !ok || !dfa.Same(got, d) {
		t.Error(got, ok)
	}
}

// small is a valid narrow table of three states and three groups.
func small() squeeze.Narrow {
	return squeeze.Narrow{
		Groups: row(0, map[int]int{4: 1, start: 2}),
		Next:   [][]int{{0, 1, 2}, {2, 1, 0}, {2, 2, 2}},
		Tells:  []uint64{0, 1 << 63, 5},
	}
}

func TestNarrow(t *testing.T) {
	holdNarrow(t, "the small one", small(), true)
	holdNarrow(t, "nothing", squeeze.Narrow{}, false)
	for what, groups := range wrongGroups() {
		n := small()
		n.Groups = groups
		holdNarrow(t, what, n, false)
		holdNarrow(t, what, squeeze.Narrow{Groups: groups, Next: [][]int{{0}}, Tells: []uint64{0}}, false)
		holdNarrow(t, what, squeeze.Narrow{Groups: groups, Next: [][]int{{}}, Tells: []uint64{0}}, false)
		holdNarrow(t, what, squeeze.Narrow{Groups: groups, Next: [][]int{slices.Clone(groups)}, Tells: []uint64{0}}, false)
	}
	for _, x := range []struct {
		what   string
		change func(n *squeeze.Narrow)
	}{
		{"no states", func(n *squeeze.Narrow) { n.Next, n.Tells = nil, nil }},
		{"no states, but Tells", func(n *squeeze.Narrow) { n.Next = nil }},
		{"no Tells", func(n *squeeze.Narrow) { n.Tells = nil }},
		{"less Tells", func(n *squeeze.Narrow) { n.Tells = n.Tells[:2] }},
		{"more Tells", func(n *squeeze.Narrow) { n.Tells = append(n.Tells, 0) }},
		{"less rows", func(n *squeeze.Narrow) { n.Next = n.Next[:2] }},
		{"more rows", func(n *squeeze.Narrow) { n.Next = append(n.Next, []int{0, 0, 0}) }},
		{"less groups", func(n *squeeze.Narrow) { n.Groups[start] = 1 }},
		{"more groups", func(n *squeeze.Narrow) { n.Groups[35], n.Groups[36] = 2, 3 }},
		{"wide rows", func(n *squeeze.Narrow) { n.Next = ring(3, 4).Next }},
	} {
		n := small()
		x.change(&n)
		holdNarrow(t, x.what, n, false)
	}
	for state := range 3 {
		for _, row := range [][]int{nil, {}, {0}, {0, 0}, {0, 0, 0, 0}, slices.Repeat([]int{0}, 37)} {
			n := small()
			n.Next[state] = row
			holdNarrow(t, "a row of "+strconv.Itoa(len(row)), n, false)
		}
		for group := range 3 {
			for _, to := range []int{math.MinInt, -1, 0, 1, 2, 3, 4, 37, 1000, math.MaxInt} {
				n := small()
				n.Next[state][group] = to
				holdNarrow(t, "to "+strconv.Itoa(to), n, 0 <= to && to < 3)
			}
		}
	}
}

// TestNarrowStates has narrow tables of as many states as can be, and more.
func TestNarrowStates(t *testing.T) {
	for _, count := range []int{0, 1, 2, 999, 1000, 1001, 5000} {
		for _, groups := range [][]int{one(), each(), small().Groups} {
			n := squeeze.Narrow{Groups: groups, Tells: make([]uint64, count)}
			for state := range count {
				n.Next = append(n.Next, slices.Repeat([]int{count - 1 - state}, many(groups)))
			}
			holdNarrow(t, strconv.Itoa(count), n, 1 <= count && count <= api.MaxStates)
		}
	}
}

// spoil overwrites a list and its spare capacity.
func spoil[T any](l []T) {
	clear(l[:cap(l)])
}

// TestShares changes what was answered: neither what was given nor another answer may change with it, nor another list.
func TestShares(t *testing.T) {
	groups, d := small().Groups, wide(small())
	for _, l := range [][]dfa.DFA{nil, {d}} {
		first, want := squeeze.Groups(l...), slices.Clone(squeeze.Groups(l...))
		for i := range first[:cap(first)] {
			first[:cap(first)][i] = 7
		}
		if got := squeeze.Groups(l...); !slices.Equal(got, want) {
			t.Error(got)
		}
	}
	n, _ := squeeze.Make(groups, d)
	for state := range n.Next {
		spoil(n.Next[state])
		for other := state + 1; other < len(n.Next); other++ {
			if !slices.Equal(n.Next[other], small().Next[other]) {
				t.Fatal("narrow rows", state, other)
			}
		}
	}
	spoil(n.Groups)
	spoil(n.Tells)
	spoil(n.Next)
	if again, err := squeeze.Make(groups, d); err != api.OK || !same(again, small()) || !dfa.Same(d, wide(small())) || !slices.Equal(groups, small().Groups) {
		t.Error("Make", again, err)
	}
	n = small()
	w, _ := squeeze.Wide(n)
	for state := range w.Next {
		spoil(w.Next[state])
		for other := state + 1; other < len(w.Next); other++ {
			if !slices.Equal(w.Next[other], d.Next[other]) {
				t.Fatal("wide rows", state, other)
			}
		}
	}
	spoil(w.Tells)
	spoil(w.Next)
	if again, ok := squeeze.Wide(n); !ok || !dfa.Same(again, d) || !same(n, small()) {
		t.Error("Wide", again, ok)
	}
}

// TestGiven holds that what was given stays as it was, with its spare capacity.
func TestGiven(t *testing.T) {
	n, d := small(), wide(small())
	l := []dfa.DFA{d, {}, d, ring(2, 9)}[:3]
	d.Next, d.Tells = append(d.Next, row(9, nil))[:3], append(d.Tells, 77)[:3]
	for state := range d.Next {
		d.Next[state] = append(d.Next[state], 88)[:37]
	}
	n.Groups, n.Next, n.Tells = append(n.Groups, 44)[:37], append(n.Next, []int{55})[:3], append(n.Tells, 66)[:3]
	for state := range n.Next {
		n.Next[state] = append(n.Next[state], 99)[:3]
	}
	l[0], l[2] = d, d
	wantTable, wantNarrow := copied(d), copiedNarrow(n)
	squeeze.Groups(l...)
	squeeze.Make(n.Groups, d)
	squeeze.Make(n.Groups[:36], d)
	squeeze.Many(n.Groups)
	squeeze.Right(n)
	squeeze.Wide(n)
	isKept := slices.Equal(d.Next[:4][3], row(9, nil)) && d.Tells[:4][3] == 77 && dfa.Same(l[:4][3], ring(2, 9)) &&
		n.Groups[:38][37] == 44 && slices.Equal(n.Next[:4][3], []int{55}) && n.Tells[:4][3] == 66
	for state := range 3 {
		isKept = isKept && d.Next[state][:38][37] == 88 && n.Next[state][:4][3] == 99
	}
	if !dfa.Same(d, wantTable) || !same(n, wantNarrow) || !isKept {
		t.Error(d, n)
	}
}
