package nfa_test

import (
	"math"
	"math/rand"
	"slices"
	"testing"

	"virgule/api"
	"virgule/expr"
	"virgule/nfa"
)

// wild is numbers that are neither symbols nor positions of small automata.
func wild() []int {
	return []int{math.MinInt, -1000, -64, -1, 37, 40, 64, 100, 999, 1000, 1024, math.MaxInt}
}

// symbols is all symbols.
func symbols() []int {
	var out []int
	for mark := range 37 {
		out = append(out, mark)
	}
	return out
}

// TestSmall holds all sets of positions of all small expressions against the chapter's terms.
func TestSmall(t *testing.T) {
	for _, x := range small() {
		l := []expr.Node{x}
		m := newModel(l...)
		for _, search := range []bool{false, true} {
			n := built(t, search, l...)
			m.holdNew(t, n, l)
			for bits := range 1 << len(m.leaves) {
				var set []int
				for p := range m.leaves {
					if bits>>p&1 == 1 {
						set = append(set, p)
					}
				}
				m.hold(t, n, search, l, set, classL, classV, 36, 37, -1)
			}
		}
	}
}

// TestLists holds lists of expressions against the chapter's terms; the sets have anything in any order.
func TestLists(t *testing.T) {
	rng := rand.New(rand.NewSource(8))
	some := small()
	for range 1500 {
		l := make([]expr.Node, rng.Intn(6))
		for i := range l {
			l[i] = some[rng.Intn(len(some))]
			if rng.Intn(6) == 0 {
				l[i] = nothing()
			}
		}
		m := newModel(l...)
		search := rng.Intn(2) == 0
		n := built(t, search, l...)
		m.holdNew(t, n, l)
		for range 40 {
			set := make([]int, rng.Intn(8))
			for i := range set {
				set[i] = rng.Intn(len(m.leaves)+4) - 2
				if rng.Intn(8) == 0 {
					set[i] = wild()[rng.Intn(len(wild()))]
				}
			}
			m.hold(t, n, search, l, set, classL, classV, 0, 36, wild()[rng.Intn(len(wild()))])
		}
	}
}

// TestRuns holds what is accepted behind symbols against what matches them, or a suffix of them.
func TestRuns(t *testing.T) {
	rng := rand.New(rand.NewSource(82))
	for range 3000 {
		l := make([]expr.Node, rng.Intn(5))
		for i := range l {
			if l[i] = random(rng, 4); rng.Intn(8) == 0 {
				l[i] = nothing()
			}
		}
		for _, search := range []bool{false, true} {
			n := built(t, search, l...)
			set := n.Begin()
			var marks []int
			for range 8 {
				if got, want := n.Tells(set), matching(search, marks, l); got != want {
					t.Fatalf("%s, %t: %b behind %d, not %b", texts(l), search, got, marks, want)
				}
				mark := []int{classL, classV, 0, 36, rng.Intn(40) - 2}[rng.Intn(5)]
				marks, set = append(marks, mark), n.Step(set, mark)
				if !slices.IsSorted(set) || len(slices.Compact(slices.Clone(set))) != len(set) {
					t.Fatalf("%s: %d behind %d", texts(l), set, marks)
				}
			}
		}
	}
}

// matching is the expressions that match marks or, searching, a suffix of them.
func matching(search bool, marks []int, l []expr.Node) uint64 {
	var out uint64
	for i, x := range l {
		for from := range len(marks) + 1 {
			if (search || from == 0) && expr.Matches(x, marks[from:]...) {
				out |= 1 << i
			}
		}
	}
	return out
}

func TestExamples(t *testing.T) {
	x := of(expr.Seq, class(classL), of(expr.Star, class(classV)))
	for search, want := range map[bool][]int{false: {2}, true: {0, 2}} {
		n := built(t, search, x)
		set := n.Step(n.Step(n.Begin(), classL), classV)
		if !slices.Equal(set, want) || n.Tells(set) != 1 || n.Count() != 3 {
			t.Error(search, set, n.Tells(set), n.Count())
		}
	}
}

// TestLeaves asks each leaf for each symbol, and for what is none.
func TestLeaves(t *testing.T) {
	all := []expr.Node{anyClass(), beginning()}
	for c := range api.Classes {
		all = append(all, class(c), not(c))
	}
	for _, x := range all {
		l := []expr.Node{x}
		m := newModel(l...)
		for _, search := range []bool{false, true} {
			m.hold(t, built(t, search, x), search, l, []int{0}, append(symbols(), wild()...)...)
		}
	}
}

// TestNoExpressions has no leaves, so that there is nothing but the beginning.
func TestNoExpressions(t *testing.T) {
	for search, want := range map[bool][]int{false: nil, true: {0}} {
		for _, l := range [][]expr.Node{nil, {}, {nothing()}} {
			n := built(t, search, l...)
			if n.Count() != 1 || !slices.Equal(n.Begin(), []int{0}) {
				t.Error(search, l, n.Count(), n.Begin())
			}
			for _, mark := range append(symbols(), wild()...) {
				for _, set := range [][]int{nil, {}, {0}, {1}, wild()} {
					if got := n.Step(set, mark); !slices.Equal(got, want) {
						t.Errorf("%t: Step(%d, %d): %d", search, set, mark, got)
					}
				}
			}
			if got := n.Tells([]int{0}); got != uint64(len(l)) || n.Tells(nil) != 0 || n.Tells(wild()) != 0 {
				t.Error("Tells", search, l, got)
			}
		}
	}
}

// TestShared has the same node as two parts: they are two leaves.
func TestShared(t *testing.T) {
	x := of(expr.Seq, class(classL), class(classL))
	l := []expr.Node{of(expr.Alt, x, x), x, x.Kids[0]}
	n := built(t, false, l...)
	if n.Count() != 8 {
		t.Fatal(n.Count())
	}
	for _, want := range []struct {
		set   []int
		tells uint64
	}{{[]int{0}, 0}, {[]int{1, 3, 5, 7}, 4}, {[]int{2, 4, 6}, 3}} {
		m := newModel(l...)
		m.hold(t, n, false, l, want.set, classL, classV)
		if got := n.Tells(want.set); got != want.tells {
			t.Errorf("Tells(%d): %b", want.set, got)
		}
	}
}

// TestBeginning holds what position 0 accepts where expressions match the empty list.
func TestBeginning(t *testing.T) {
	a, b := class(classL), class(classV)
	l := []expr.Node{
		nothing(),
		a,
		of(expr.Star, a),
		of(expr.Plus, a),
		of(expr.Maybe, a),
		of(expr.Seq, of(expr.Star, a), of(expr.Maybe, b)),
		of(expr.Seq, of(expr.Star, a), b),
		of(expr.Alt, a, of(expr.Star, b)),
		of(expr.Alt, a, b),
		of(expr.Plus, of(expr.Maybe, a)),
		beginning(),
		of(expr.Star, beginning()),
	}
	const empties = 0b101010110101
	for _, search := range []bool{false, true} {
		n := built(t, search, l...)
		if got := n.Tells(n.Begin()); got != empties {
			t.Errorf("%t: %b", search, got)
		}
		want := uint64(0)
		if search {
			want = empties
		}
		if got := n.Tells(n.Step(n.Begin(), 0)); got != want {
			t.Errorf("%t: %b behind what no leaf matches", search, got)
		}
	}
}

func TestNil(t *testing.T) {
	var n *nfa.NFA
	if l := n.Begin(); len(l) != 0 {
		t.Error("Begin", l)
	}
	for _, set := range [][]int{nil, {0}, {0, 1}, wild()} {
		for _, mark := range append(symbols(), wild()...) {
			if l := n.Step(set, mark); len(l) != 0 {
				t.Error("Step", set, mark, l)
			}
		}
		if n.Tells(set) != 0 {
			t.Error("Tells", set)
		}
	}
	if n.Count() != 0 {
		t.Error("Count", n.Count())
	}
}

// TestShares changes what an automaton answered: neither it nor its other answers may change with it.
func TestShares(t *testing.T) {
	for _, search := range []bool{false, true} {
		n := built(t, search, of(expr.Star, of(expr.Seq, anyClass(), anyClass())), anyClass())
		first, second := n.Begin(), n.Begin()
		spoil(first)
		if !slices.Equal(second, []int{0}) || !slices.Equal(n.Begin(), []int{0}) {
			t.Error("Begin", search, second)
		}
		set := []int{0, 2}
		kept := n.Step(set, classL)
		want := slices.Clone(kept)
		spoil(n.Step(set, classL))
		spoil(n.Step(kept, classL))
		if !slices.Equal(kept, want) || !slices.Equal(n.Step(set, classL), want) || !slices.Equal(set, []int{0, 2}) {
			t.Error("Step", search, kept, want)
		}
	}
}

// spoil overwrites a list and its spare capacity.
func spoil(l []int) {
	l = l[:cap(l)]
	for i := range l {
		l[i] = 1
	}
}

// TestGiven holds that what was given is neither changed nor kept.
func TestGiven(t *testing.T) {
	whole := []expr.Node{of(expr.Seq, class(classL), class(classV)), nothing(), beginning()}
	l := whole[:2]
	n := built(t, true, l...)
	if !expr.Same(whole[0], of(expr.Seq, class(classL), class(classV))) || !expr.Same(whole[1], nothing()) || !expr.Same(whole[2], beginning()) {
		t.Error("the expressions", whole)
	}
	l[0].Kids[0], l[0].Kids[1], l[1] = beginning(), beginning(), anyClass()
	if got := n.Step([]int{0, 1}, classL); !slices.Equal(got, []int{0, 1}) || n.Tells([]int{0}) != 2 || n.Count() != 3 {
		t.Error("the automaton", got)
	}
	numbers := []int{1, 1, 0, 77, 5}
	n.Step(numbers[:3], classV)
	n.Tells(numbers[:3])
	if !slices.Equal(numbers, []int{1, 1, 0, 77, 5}) {
		t.Error("the set", numbers)
	}
}
