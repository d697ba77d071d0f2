package least_test

import (
	"math"
	"math/rand"
	"slices"
	"testing"

	"virgule/api"
	"virgule/dfa"
	"virgule/expr"
	"virgule/least"
	"virgule/nfa"
)

// Symbols that the tests use.
const (
	classL = 11
	classV = 12
	start  = 36
)

// row is a row of a table that leads to one state by most symbols, and to others by some.
func row(most int, others map[int]int) []int {
	out := slices.Repeat([]int{most}, 37)
	for mark, to := range others {
		out[mark] = to
	}
	return out
}

// ring is a table of states of which each leads to the next one by a symbol, and to itself by the others;
// every so many states accept something.
func ring(count, mark, every int) dfa.DFA {
	var d dfa.DFA
	for state := range count {
		d.Next = append(d.Next, row(state, map[int]int{mark: (state + 1) % count}))
		d.Tells = append(d.Tells, 0)
		if state%every == 0 {
			d.Tells[state] = 6
		}
	}
	return d
}

// chain is a table of states of which each leads to the next one by a symbol, and to itself by the others;
// the last one accepts something, and leads only to itself.
func chain(count, mark int) dfa.DFA {
	d := ring(count, mark, count)
	d.Next[count-1][mark] = count - 1
	d.Tells[0], d.Tells[count-1] = 0, 1
	return d
}

// of is the table of the expressions of texts.
func of(t *testing.T, search bool, texts ...string) dfa.DFA {
	t.Helper()
	var l []expr.Node
	for _, s := range texts {
		n, at, err := expr.Parse(s)
		if err != api.OK {
			t.Fatalf("Parse(%q): %d at %d", s, err, at)
		}
		l = append(l, n)
	}
	n, err := nfa.New(search, l...)
	if err != api.OK {
		t.Fatalf("nfa.New: %d", err)
	}
	d, err := dfa.New(n)
	if err != api.OK {
		t.Fatalf("dfa.New: %d", err)
	}
	return d
}

// wrong is tables that are not valid.
func wrong() map[string]dfa.DFA {
	out := map[string]dfa.DFA{
		"no state":            {},
		"no state, but Tells": {Tells: []uint64{1}},
		"no Tells":            {Next: [][]int{row(0, nil)}},
		"one state more":      ring(api.MaxStates+1, 0, 2),
	}
	add := func(what string, change func(d *dfa.DFA)) {
		d := ring(3, classL, 3)
		change(&d)
		out[what] = d
	}
	add("less Tells", func(d *dfa.DFA) { d.Tells = d.Tells[:2] })
	add("more Tells", func(d *dfa.DFA) { d.Tells = append(d.Tells, 0) })
	add("no row", func(d *dfa.DFA) { d.Next[1] = nil })
	add("a row less long", func(d *dfa.DFA) { d.Next[2] = d.Next[2][:36] })
	add("a longer row", func(d *dfa.DFA) { d.Next[1] = append(d.Next[1], 0) })
	add("a state below 0", func(d *dfa.DFA) { d.Next[0][0] = -1 })
	add("a state behind all", func(d *dfa.DFA) { d.Next[2][36] = 3 })
	add("the greatest state", func(d *dfa.DFA) { d.Next[1][20] = math.MaxInt })
	return out
}

// TestSmall holds all tables of up to three states and two groups of symbols against the chapter's terms.
func TestSmall(t *testing.T) {
	for count, all := range []int{0, 2, 64, 5832} {
		for number := range all {
			d := numbered(count, number)
			hold(t, d)
			holdConsequence(t, d)
		}
	}
}

// numbered is the table of a number, out of all those of some states that accept one of two things.
func numbered(count, number int) dfa.DFA {
	digit := func(base int) int {
		out := number % base
		number /= base
		return out
	}
	var tells []uint64
	var next [][]int
	for range count {
		tells = append(tells, uint64(digit(2)))
		next = append(next, []int{digit(count), digit(count)})
	}
	return table(groups(2), tells, next...)
}

// TestRandom holds larger tables against the chapter's terms.
func TestRandom(t *testing.T) {
	rng := rand.New(rand.NewSource(10))
	for range 700 {
		d := random(rng, 1+rng.Intn(12), 1+rng.Intn(5), 1+rng.Intn(3))
		hold(t, d)
		holdConsequence(t, d)
		more := unfolded(rng, d, 1+rng.Intn(20))
		hold(t, more)
		holdConsequence(t, more)
		if !least.Alike(d, more) || !least.Alike(more, d) || !dfa.Same(least.Least(d), least.Least(more)) {
			t.Fatalf("%v, %v", d, more)
		}
	}
}

// TestAlike holds Alike of two tables against the chapter's terms.
func TestAlike(t *testing.T) {
	rng := rand.New(rand.NewSource(102))
	count := [2]int{}
	for range 4000 {
		columns := 1 + rng.Intn(3)
		a := random(rng, 1+rng.Intn(3), columns, 2)
		b := unfolded(rng, a, 1+rng.Intn(8))
		if rng.Intn(2) == 0 {
			state := rng.Intn(len(b.Next))
			b.Next[state][rng.Intn(37)] = rng.Intn(len(b.Next))
			b.Tells[rng.Intn(len(b.Next))] ^= uint64(rng.Intn(2))
		}
		want := alike(a, b)
		if least.Alike(a, b) != want || least.Alike(b, a) != want {
			t.Fatalf("%v, %v: not %t", a, b, want)
		}
		if want {
			count[1]++
		} else {
			count[0]++
		}
	}
	if count[0] < 500 || count[1] < 500 {
		t.Error("too few of one kind", count)
	}
}

// TestAutomata minimizes tables of automata, and holds what they accept behind lists.
func TestAutomata(t *testing.T) {
	for _, x := range []struct {
		search bool
		a, b   []string
		count  int
	}{
		{false, []string{"L V|T V"}, []string{"(L|T) V"}, 4},
		{false, []string{"L L*"}, []string{"L+"}, 3},
		{true, []string{"L V", "V"}, []string{"L V|L V", "V|V"}, 4},
		{true, []string{"any* L"}, []string{"L"}, 2},
		{false, []string{"(any|^)*"}, []string{"(^|any)*"}, 1},
		{false, []string{"any any|any ~L"}, []string{"any any"}, 4},
	} {
		a, b := of(t, x.search, x.a...), of(t, x.search, x.b...)
		hold(t, a)
		hold(t, b)
		holdConsequence(t, a)
		if got := least.Least(a); len(got.Next) != x.count || !least.Alike(a, b) || !dfa.Same(got, least.Least(b)) {
			t.Error(x.a, x.b, got)
		}
	}
	if least.Alike(of(t, false, "L V"), of(t, false, "V L")) || least.Alike(of(t, false, "L", "V"), of(t, false, "V", "L")) {
		t.Error("what accepts other lists")
	}
	if least.Alike(of(t, false, "L"), of(t, true, "L")) || least.Alike(of(t, true), of(t, false, "L")) {
		t.Error("what accepts more lists")
	}
}

// TestExample has two states that accept the same and lead to each other.
func TestExample(t *testing.T) {
	two := dfa.DFA{Next: [][]int{row(1, nil), row(0, nil)}, Tells: []uint64{3, 3}}
	want := dfa.DFA{Next: [][]int{row(0, nil)}, Tells: []uint64{3}}
	if got := least.Least(two); !dfa.Same(got, want) {
		t.Error(got)
	}
	if got := least.Classes(two); !slices.Equal(got, []int{0, 0}) {
		t.Error(got)
	}
	if got, ok := least.Apart(two, 0, 1); len(got) != 0 || ok {
		t.Error(got, ok)
	}
	if !least.Alike(two, want) {
		t.Error("Alike")
	}
	two.Tells[1] = 1 << 63
	if got := least.Least(two); !dfa.Same(got, two) {
		t.Error("what accepts something else", got)
	}
	if got := least.Classes(two); !slices.Equal(got, []int{0, 1}) {
		t.Error("what accepts something else", got)
	}
}

// TestUnreached has states to which nothing leads from the first one.
func TestUnreached(t *testing.T) {
	d := dfa.DFA{
		Next:  [][]int{row(4, map[int]int{start: 2}), row(0, nil), row(4, nil), row(3, map[int]int{0: 1}), row(2, nil), row(4, nil)},
		Tells: []uint64{0, 7, 1, 9, 1, 1},
	}
	if got := least.Classes(d); !slices.Equal(got, []int{0, 1, 2, 3, 2, 2}) {
		t.Error(got)
	}
	want := dfa.DFA{Next: [][]int{row(1, nil), row(1, nil)}, Tells: []uint64{0, 1}}
	if got := least.Least(d); !dfa.Same(got, want) {
		t.Error(got)
	}
	if !least.Alike(d, want) || !least.Alike(want, d) {
		t.Error("Alike")
	}
	if got, ok := least.Apart(d, 0, 3); len(got) != 0 || !ok {
		t.Error(got, ok)
	}
	hold(t, d)
}

// TestNumbers has minimal tables whose states are numbered as they are first reached.
func TestNumbers(t *testing.T) {
	// From 0, 3 is reached first, then 1; from 3, 2 is; 4 is as 1.
	d := dfa.DFA{
		Next: [][]int{
			row(3, map[int]int{classL: 1, classV: 4}),
			row(1, map[int]int{start: 0}),
			row(0, nil),
			row(4, map[int]int{0: 2}),
			row(4, map[int]int{start: 0}),
		},
		Tells: []uint64{1, 2, 3, 4, 2},
	}
	want := dfa.DFA{
		Next: [][]int{
			row(1, map[int]int{classL: 2, classV: 2}),
			row(2, map[int]int{0: 3}),
			row(2, map[int]int{start: 0}),
			row(0, nil),
		},
		Tells: []uint64{1, 4, 2, 3},
	}
	if got := least.Least(d); !dfa.Same(got, want) {
		t.Error(got)
	}
	if got := least.Classes(d); !slices.Equal(got, []int{0, 1, 2, 3, 1}) {
		t.Error(got)
	}
	if got := least.Least(want); !dfa.Same(got, want) {
		t.Error("minimal already", got)
	}
}

func TestApart(t *testing.T) {
	// From 0 and 1, two symbols behind each other distinguish: first 20 and then 0, or 30 and then start.
	d := dfa.DFA{
		Next: [][]int{
			row(0, map[int]int{20: 2, 30: 4}),
			row(1, map[int]int{20: 3, 30: 5}),
			row(2, map[int]int{30: 6}),
			row(3, map[int]int{30: 7}),
			row(4, map[int]int{0: 6}),
			row(5, map[int]int{0: 7}),
			row(6, nil),
			row(7, nil),
		},
		Tells: []uint64{0, 0, 0, 0, 0, 0, 1, 2},
	}
	hold(t, d)
	for _, x := range []struct {
		p, q int
		want []int
	}{{0, 1, []int{20, 30}}, {1, 0, []int{20, 30}}, {2, 3, []int{30}}, {4, 5, []int{0}}, {6, 7, nil}, {0, 6, nil}, {2, 4, []int{0}}, {0, 5, []int{0}}} {
		if got, ok := least.Apart(d, x.p, x.q); !ok || !slices.Equal(got, x.want) {
			t.Errorf("%d and %d: %d, %t, not %d", x.p, x.q, got, ok, x.want)
		}
	}
	d.Next[0][35], d.Next[1][35] = 6, 7
	if got, ok := least.Apart(d, 0, 1); !ok || !slices.Equal(got, []int{35}) {
		t.Error("the shortest one", got, ok)
	}
}

// TestApartNone asks for states that are equivalent, the same, or not there.
func TestApartNone(t *testing.T) {
	d := ring(6, classL, 3)
	for p := range d.Next {
		for _, q := range []int{p, (p + 3) % 6} {
			if got, ok := least.Apart(d, p, q); len(got) != 0 || ok {
				t.Errorf("%d and %d: %d, %t", p, q, got, ok)
			}
		}
		for _, q := range []int{math.MinInt, -6, -1, 6, 7, 37, 1000, math.MaxInt} {
			for _, pair := range [][2]int{{p, q}, {q, p}, {q, q}, {q, -1}} {
				if got, ok := least.Apart(d, pair[0], pair[1]); len(got) != 0 || ok {
					t.Errorf("%d: %d, %t", pair, got, ok)
				}
			}
		}
	}
}

// TestLong has states that only long lists distinguish.
func TestLong(t *testing.T) {
	for _, mark := range []int{0, classV, start} {
		d := chain(api.MaxStates, mark)
		if got := least.Least(d); !dfa.Same(got, d) {
			t.Error("Least", len(got.Next))
		}
		for _, x := range [][3]int{{0, 1, 998}, {1, 0, 998}, {0, 999, 0}, {5, 998, 1}, {300, 700, 299}} {
			if got, ok := least.Apart(d, x[0], x[1]); !ok || !slices.Equal(got, slices.Repeat([]int{mark}, x[2])) {
				t.Error(x, got, ok)
			}
		}
		other := copied(d)
		other.Tells[999] = 2
		if !least.Alike(d, copied(d)) || least.Alike(d, other) || least.Alike(other, d) || least.Alike(d, chain(999, mark)) {
			t.Error("Alike")
		}
	}
	d := ring(api.MaxStates, 4, 10)
	if got := least.Least(d); !dfa.Same(got, ring(10, 4, 10)) || !least.Alike(d, ring(500, 4, 10)) || least.Alike(d, ring(500, 4, 5)) {
		t.Error("a ring", got)
	}
	for state, got := range least.Classes(d) {
		if got != state%10 {
			t.Fatal("a ring", state, got)
		}
	}
	if got, ok := least.Apart(d, 1, 2); !ok || !slices.Equal(got, slices.Repeat([]int{4}, 8)) {
		t.Error("a ring", got, ok)
	}
	if got, ok := least.Apart(d, 1, 991); ok || len(got) != 0 {
		t.Error("a ring", got, ok)
	}
}

// TestFull has as many states as may be, all equivalent, or leading anywhere.
func TestFull(t *testing.T) {
	rng := rand.New(rand.NewSource(1000))
	for _, accepts := range []int{1, 2} {
		holdWhole(t, random(rng, api.MaxStates, 3, accepts))
		more := unfolded(rng, random(rng, 40, 3, accepts), 900)
		hold(t, least.Least(more))
		holdWhole(t, more)
	}
}

// holdWhole holds a table's answers against each other, without asking for each two states.
func holdWhole(t *testing.T, d dfa.DFA) {
	t.Helper()
	small := least.Least(d)
	if !dfa.Same(least.Least(small), small) || !least.Alike(d, small) || !alike(d, small) {
		t.Error(len(small.Next))
	}
	classes := least.Classes(d)
	for _, state := range dfa.Reached(d) {
		for mark := range 37 {
			if classes[d.Next[state][mark]] != classes[d.Next[slices.Index(classes, classes[state])][mark]] {
				t.Fatal("a class that leads to two", state, mark)
			}
		}
	}
}

func TestWrong(t *testing.T) {
	d := ring(3, classL, 3)
	for what, bad := range wrong() {
		if got := least.Least(bad); len(got.Next) != 0 || len(got.Tells) != 0 {
			t.Error(what, "Least", got)
		}
		if got := least.Classes(bad); len(got) != 0 {
			t.Error(what, "Classes", got)
		}
		for p := -1; p < 4; p++ {
			for q := -1; q < 4; q++ {
				if got, ok := least.Apart(bad, p, q); len(got) != 0 || ok {
					t.Error(what, "Apart", p, q, got)
				}
			}
		}
		if least.Alike(bad, d) || least.Alike(d, bad) || least.Alike(bad, bad) || least.Alike(bad, dfa.DFA{}) {
			t.Error(what, "Alike")
		}
	}
}

// spoil overwrites a list and its spare capacity.
func spoil[T any](l []T) {
	clear(l[:cap(l)])
}

// TestShares changes what was answered: neither the table nor another answer may change with it, nor another row.
func TestShares(t *testing.T) {
	for _, d := range []dfa.DFA{of(t, true, "L V", "V L*"), chain(5, classL), ring(6, classL, 3)} {
		given := copied(d)
		first, want := least.Least(d), least.Least(d)
		for state := range first.Next {
			spoil(first.Next[state])
			for other := state + 1; other < len(first.Next); other++ {
				if !slices.Equal(first.Next[other], want.Next[other]) {
					t.Fatal("rows", state, other)
				}
			}
		}
		spoil(first.Next)
		spoil(first.Tells)
		classes := slices.Clone(least.Classes(d))
		spoil(least.Classes(d))
		list, _ := least.Apart(d, 0, 1)
		kept := slices.Clone(list)
		spoil(list)
		again, _ := least.Apart(d, 0, 1)
		if !dfa.Same(d, given) || !dfa.Same(least.Least(d), want) || !slices.Equal(least.Classes(d), classes) || !slices.Equal(again, kept) {
			t.Error(d, given)
		}
	}
}

// TestGiven holds that what was given stays as it was, with its spare capacity.
func TestGiven(t *testing.T) {
	d := ring(6, classL, 3)
	d.Next, d.Tells = append(d.Next, row(9, nil))[:6], append(d.Tells, 77)[:6]
	for state := range d.Next {
		d.Next[state] = append(d.Next[state], 88)[:37]
	}
	want := copied(d)
	least.Least(d)
	least.Classes(d)
	least.Apart(d, 0, 1)
	least.Alike(d, d)
	isKept := slices.Equal(d.Next[:7][6], row(9, nil)) && d.Tells[:7][6] == 77
	for _, next := range d.Next {
		isKept = isKept && next[:38][37] == 88
	}
	if !dfa.Same(d, want) || !isKept {
		t.Error(d)
	}
}
