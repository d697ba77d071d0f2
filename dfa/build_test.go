package dfa_test

import (
	"math/rand"
	"slices"
	"strconv"
	"strings"
	"testing"

	"virgule/api"
	"virgule/dfa"
	"virgule/expr"
	"virgule/nfa"
)

// Symbols that the tests use.
const (
	classCR = 1
	classLF = 2
	classL  = 11
	classV  = 12
	start   = 36
)

// parsed is the expressions of texts.
func parsed(t *testing.T, texts ...string) []expr.Node {
	t.Helper()
	var out []expr.Node
	for _, s := range texts {
		if s == "" {
			out = append(out, expr.Node{Kind: expr.Empty})
			continue
		}
		n, at, err := expr.Parse(s)
		if err != api.OK {
			t.Fatalf("Parse(%q): %d at %d", s, err, at)
		}
		out = append(out, n)
	}
	return out
}

// automaton is the automaton of expressions.
func automaton(t *testing.T, search bool, l ...expr.Node) *nfa.NFA {
	t.Helper()
	n, err := nfa.New(search, l...)
	if err != api.OK {
		t.Fatalf("nfa.New: %d", err)
	}
	return n
}

// built is the table of an automaton.
func built(t *testing.T, n *nfa.NFA) dfa.DFA {
	t.Helper()
	d, err := dfa.New(n)
	if err != api.OK || !dfa.Right(d) {
		t.Fatalf("New: %d, %d states", err, len(d.Next))
	}
	return d
}

// of is the table of the expressions of texts.
func of(t *testing.T, search bool, texts ...string) dfa.DFA {
	t.Helper()
	return built(t, automaton(t, search, parsed(t, texts...)...))
}

// row is a row of a table that leads to one state by most symbols, and to others by some.
func row(most int, others map[int]int) []int {
	out := slices.Repeat([]int{most}, 37)
	for mark, to := range others {
		out[mark] = to
	}
	return out
}

// setsOf is the sets of an automaton, in the chapter's order.
func setsOf(n *nfa.NFA) [][]int {
	sets := [][]int{n.Begin()}
	for at := 0; at < len(sets); at++ {
		for mark := range 37 {
			next := n.Step(sets[at], mark)
			if placeOf(sets, next) < 0 {
				sets = append(sets, next)
			}
		}
	}
	return sets
}

// placeOf is where a set is in a list, -1 if it isn't there.
func placeOf(sets [][]int, set []int) int {
	return slices.IndexFunc(sets, func(x []int) bool { return slices.Equal(x, set) })
}

// hold holds the table of an automaton against the chapter's terms.
func hold(t *testing.T, what string, n *nfa.NFA) {
	t.Helper()
	d, sets := built(t, n), setsOf(n)
	if len(d.Next) != len(sets) || len(d.Tells) != len(sets) {
		t.Fatalf("%s: %d states, %d Tells, not %d", what, len(d.Next), len(d.Tells), len(sets))
	}
	for state, set := range sets {
		if d.Tells[state] != n.Tells(set) {
			t.Fatalf("%s: Tells of %d: %b, not %b", what, state, d.Tells[state], n.Tells(set))
		}
		for mark, to := range d.Next[state] {
			if want := placeOf(sets, n.Step(set, mark)); to != want {
				t.Fatalf("%s: from %d by %d: %d, not %d", what, state, mark, to, want)
			}
		}
	}
}

// randomText is the text of some expression over few symbols.
func randomText(rng *rand.Rand, depth int) string {
	if depth == 0 || rng.Intn(4) == 0 {
		return []string{"L", "V", "~L", "~Other", "any", "^"}[rng.Intn(6)]
	}
	if rng.Intn(2) == 0 {
		return "(" + randomText(rng, depth-1) + ")" + []string{"*", "+", "?"}[rng.Intn(3)]
	}
	parts := make([]string, 2+rng.Intn(2))
	for i := range parts {
		parts[i] = randomText(rng, depth-1)
	}
	return "(" + strings.Join(parts, []string{" ", "|"}[rng.Intn(2)]) + ")"
}

// randomTexts is the texts of some expressions, of which one may be empty.
func randomTexts(rng *rand.Rand) []string {
	out := make([]string, rng.Intn(5))
	for i := range out {
		if rng.Intn(8) > 0 {
			out[i] = randomText(rng, 3)
		}
	}
	return out
}

func TestNilAutomaton(t *testing.T) {
	if d, err := dfa.New(nil); err != api.ErrArg || len(d.Next) != 0 || len(d.Tells) != 0 {
		t.Error(d, err)
	}
}

func TestNoExpressions(t *testing.T) {
	one := dfa.DFA{Next: [][]int{row(0, nil)}, Tells: []uint64{0}}
	if d := of(t, true); !dfa.Same(d, one) {
		t.Error(d)
	}
	two := dfa.DFA{Next: [][]int{row(1, nil), row(1, nil)}, Tells: []uint64{0, 0}}
	if d := of(t, false); !dfa.Same(d, two) {
		t.Error(d)
	}
	one.Tells[0], two.Tells[0] = 1, 1
	if d := of(t, true, ""); !dfa.Same(d, one) {
		t.Error("Empty, searched", d)
	}
	if d := of(t, false, ""); !dfa.Same(d, two) {
		t.Error("Empty", d)
	}
}

// TestNumbers has tables whose states are numbered as they are first reached.
func TestNumbers(t *testing.T) {
	// The sets 0; none; 3; 1; 4; 2.
	want := dfa.DFA{
		Next: [][]int{
			row(1, map[int]int{classCR: 2, classLF: 3}),
			row(1, nil),
			row(1, map[int]int{classLF: 4}),
			row(1, map[int]int{classCR: 5}),
			row(1, nil),
			row(1, nil),
		},
		Tells: []uint64{0, 0, 0, 0, 2, 1},
	}
	if d := of(t, false, "LF CR", "CR LF"); !dfa.Same(d, want) {
		t.Error(d)
	}
	// The sets 0; 0, 3; 0, 1; 0, 1, 4; 0, 2, 3.
	want = dfa.DFA{
		Next: [][]int{
			row(0, map[int]int{classCR: 1, classLF: 2}),
			row(0, map[int]int{classCR: 1, classLF: 3}),
			row(0, map[int]int{classCR: 4, classLF: 2}),
			row(0, map[int]int{classCR: 4, classLF: 2}),
			row(0, map[int]int{classCR: 1, classLF: 3}),
		},
		Tells: []uint64{0, 0, 0, 2, 1},
	}
	if d := of(t, true, "LF CR", "CR LF"); !dfa.Same(d, want) {
		t.Error("searched", d)
	}
	// Only the beginning of a text leads on: the last symbol.
	want = dfa.DFA{
		Next:  [][]int{row(1, map[int]int{start: 2}), row(1, nil), row(1, map[int]int{0: 3}), row(1, nil)},
		Tells: []uint64{0, 0, 0, 1},
	}
	if d := of(t, false, "^ Other"); !dfa.Same(d, want) {
		t.Error("the beginning", d)
	}
}

// TestFewStates has tables of two states, and of three that can't become empty, or that accept from the beginning on.
func TestFewStates(t *testing.T) {
	two := dfa.DFA{Next: [][]int{row(0, map[int]int{classV: 1}), row(0, map[int]int{classV: 1})}, Tells: []uint64{0, 1}}
	if d := of(t, true, "V"); !dfa.Same(d, two) {
		t.Error("V", d)
	}
	// The sets 0; 1; none.
	empties := dfa.DFA{
		Next:  [][]int{row(1, map[int]int{start: 2}), row(1, map[int]int{start: 2}), row(2, nil)},
		Tells: []uint64{1, 1, 0},
	}
	if d := of(t, false, "any*"); !dfa.Same(d, empties) {
		t.Error("any*", d)
	}
	// The sets 0; 1; 2.
	full := dfa.DFA{Next: slices.Repeat([][]int{row(1, map[int]int{start: 2})}, 3), Tells: []uint64{1, 1, 1}}
	if d := of(t, false, "(any|^)*"); !dfa.Same(d, full) {
		t.Error("(any|^)*", d)
	}
}

// TestSets holds tables against the chapter's terms.
func TestSets(t *testing.T) {
	rng := rand.New(rand.NewSource(9))
	for range 1200 {
		texts := randomTexts(rng)
		for _, search := range []bool{false, true} {
			hold(t, strconv.FormatBool(search)+" "+strings.Join(texts, ", "), automaton(t, search, parsed(t, texts...)...))
		}
	}
}

// TestRuns holds what tables accept behind symbols against what matches them, or a suffix of them.
func TestRuns(t *testing.T) {
	rng := rand.New(rand.NewSource(93))
	for range 1200 {
		texts := randomTexts(rng)
		l := parsed(t, texts...)
		for _, search := range []bool{false, true} {
			d := of(t, search, texts...)
			var marks []int
			for range 10 {
				got, want := dfa.Tells(d, dfa.Run(d, 0, marks...)), matching(search, marks, l)
				if got != want {
					t.Fatalf("%q, %t: %b behind %d, not %b", texts, search, got, marks, want)
				}
				marks = append(marks, []int{classL, classV, 0, start, rng.Intn(37)}[rng.Intn(5)])
			}
		}
	}
}

// matching is the expressions that match marks or, searching, a suffix of them.
func matching(search bool, marks []int, l []expr.Node) uint64 {
	var out uint64
	for i, x := range l {
		for from := range len(marks) + 1 {
			if (search || from == 0) && expr.Matches(x, marks[from:]...) {
				out |= 1 << i
			}
		}
	}
	return out
}

// TestAllRules has as many expressions as may be: each keeps its bit.
func TestAllRules(t *testing.T) {
	texts := slices.Repeat([]string{"V"}, api.MaxRules)
	texts[0], texts[39] = "L", "L V"
	d := of(t, true, texts...)
	for _, x := range []struct {
		marks []int
		tells uint64
	}{{nil, 0}, {[]int{classL}, 1}, {[]int{classV}, 1<<39 - 2}, {[]int{classL, classV}, 1<<40 - 2}, {[]int{classV, classL}, 1}} {
		if got := dfa.Tells(d, dfa.Run(d, 0, x.marks...)); got != x.tells {
			t.Errorf("behind %d: %b", x.marks, got)
		}
	}
}

// chain is an expression of parts that follow one another: one part, and then many of another one.
func chain(first expr.Node, count int, part expr.Node) expr.Node {
	return expr.Node{Kind: expr.Seq, Kids: append([]expr.Node{first}, slices.Repeat([]expr.Node{part}, count)...)}
}

// TestMaxStates has as many sets as may be, and one more.
func TestMaxStates(t *testing.T) {
	anyClass, l, begin := expr.Node{Kind: expr.Any}, expr.Node{Kind: expr.Class, Class: classL}, expr.Node{Kind: expr.Start}
	for _, x := range []struct {
		what   string
		search bool
		l      []expr.Node
		count  int // of sets; 0 if they are too many
	}{
		{"a set for each of 997 leaves, the beginning, and none", false, []expr.Node{chain(l, 996, l)}, 999},
		{"a leaf more", false, []expr.Node{chain(l, 997, l)}, 1000},
		{"two leaves more", false, []expr.Node{chain(l, 998, l)}, 0},
		{"a set for each of 998 leaves, and the beginning", true, []expr.Node{chain(anyClass, 997, anyClass)}, 999},
		{"as many leaves as may be", true, []expr.Node{chain(anyClass, 998, anyClass)}, 1000},
		{"two sets for each of 499 leaves", true, []expr.Node{chain(anyClass, 498, anyClass), l}, 999},
		{"a set more", true, []expr.Node{chain(anyClass, 498, anyClass), l, begin}, 1000},
		{"two sets for each of 500 leaves", true, []expr.Node{chain(anyClass, 499, anyClass), l}, 0},
		{"subsets", true, []expr.Node{chain(l, 8, anyClass)}, 512},
		{"more subsets", true, []expr.Node{chain(l, 9, anyClass)}, 0},
		{"more subsets than can be gone through", true, []expr.Node{chain(l, 998, anyClass)}, 0},
	} {
		n := automaton(t, x.search, x.l...)
		d, err := dfa.New(n)
		if x.count == 0 {
			if err != api.ErrStates || len(d.Next) != 0 || len(d.Tells) != 0 {
				t.Errorf("%s: %d states, %d", x.what, len(d.Next), err)
			}
			continue
		}
		if err != api.OK || len(d.Next) != x.count || !dfa.Right(d) {
			t.Errorf("%s: %d states, %d", x.what, len(d.Next), err)
		}
	}
}

// TestFull asks a table of as many states as may be for each of them.
func TestFull(t *testing.T) {
	d := built(t, automaton(t, false, chain(expr.Node{Class: classV}, 997, expr.Node{Class: classV})))
	// The state without positions is 1: it is reached first, by class 0.
	for state, next := range d.Next {
		to := state + 1
		if state == 0 {
			to = 2
		}
		if state == 1 || state == 999 {
			to = 1
		}
		if !slices.Equal(next, row(1, map[int]int{classV: to})) || d.Tells[state] == 1 != (state == 999) {
			t.Fatal(state, next, d.Tells[state])
		}
	}
	if got := dfa.Run(d, 0, slices.Repeat([]int{classV}, 998)...); got != 999 {
		t.Error(got)
	}
}

// TestNewShares changes what New answered: neither the automaton nor another answer may change with it, nor another row.
func TestNewShares(t *testing.T) {
	n := automaton(t, true, parsed(t, "L V", "V L*", "^ any")...)
	first, second := built(t, n), built(t, n)
	if !dfa.Same(first, second) {
		t.Fatal(first, second)
	}
	want := copied(first)
	for state := range first.Next {
		spoil(first.Next[state])
		for other := state + 1; other < len(first.Next); other++ {
			if !slices.Equal(first.Next[other], want.Next[other]) {
				t.Fatal("rows", state, other)
			}
		}
	}
	spoil(first.Next)
	spoil(first.Tells)
	if !dfa.Same(second, want) || !dfa.Same(built(t, n), want) {
		t.Error(second)
	}
}

// spoil overwrites a list and its spare capacity.
func spoil[T any](l []T) {
	clear(l[:cap(l)])
}

// copied is a table by itself.
func copied(d dfa.DFA) dfa.DFA {
	out := dfa.DFA{Tells: slices.Clone(d.Tells)}
	for _, next := range d.Next {
		out.Next = append(out.Next, slices.Clone(next))
	}
	return out
}
