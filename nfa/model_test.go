package nfa_test

import (
	"math/rand"
	"slices"
	"strconv"
	"strings"
	"testing"

	"virgule/api"
	"virgule/expr"
	"virgule/nfa"
)

// Classes of layer 4 that the tests use.
const (
	classL = 11
	classV = 12
)

func class(n int) expr.Node { return expr.Node{Kind: expr.Class, Class: n} }
func not(n int) expr.Node   { return expr.Node{Kind: expr.Not, Class: n} }
func anyClass() expr.Node   { return expr.Node{Kind: expr.Any} }
func beginning() expr.Node  { return expr.Node{Kind: expr.Start} }
func nothing() expr.Node    { return expr.Node{Kind: expr.Empty} }
func isClass(n int) bool    { return 0 <= n && n <= 35 }
func leaves() []expr.Node   { return []expr.Node{class(classL), anyClass(), not(classL), beginning()} }
func repeats() []int        { return []int{expr.Star, expr.Plus, expr.Maybe} }

func of(kind int, kids ...expr.Node) expr.Node {
	return expr.Node{Kind: kind, Kids: kids}
}

// sized is all right expressions, but Empty, of that many nodes, over some leaves; Seq and Alt have up to three parts.
func sized(nodes int, leaves ...expr.Node) []expr.Node {
	if nodes < 1 {
		return nil
	}
	if nodes == 1 {
		return leaves
	}
	var out []expr.Node
	for _, k := range sized(nodes-1, leaves...) {
		for _, kind := range repeats() {
			out = append(out, of(kind, k))
		}
	}
	for a := 1; a < nodes-1; a++ {
		for _, first := range sized(a, leaves...) {
			for _, second := range sized(nodes-1-a, leaves...) {
				out = append(out, of(expr.Seq, first, second), of(expr.Alt, first, second))
			}
			for b := 1; a+b < nodes-1; b++ {
				for _, second := range sized(b, leaves...) {
					for _, third := range sized(nodes-1-a-b, leaves...) {
						out = append(out, of(expr.Seq, first, second, third), of(expr.Alt, first, second, third))
					}
				}
			}
		}
	}
	return out
}

// small is all right expressions of a few nodes, and those of some more nodes whose leaves are all the same.
func small() []expr.Node {
	out := []expr.Node{nothing()}
	for nodes := 1; nodes <= 4; nodes++ {
		out = append(out, sized(nodes, leaves()...)...)
	}
	return append(out, slices.Concat(sized(5, anyClass()), sized(6, anyClass()))...)
}

// random is some right expression that isn't Empty, over few symbols.
func random(rng *rand.Rand, depth int) expr.Node {
	if depth == 0 || rng.Intn(4) == 0 {
		return []expr.Node{class(classL), class(classV), not(classL), not(0), anyClass(), beginning()}[rng.Intn(6)]
	}
	kind := expr.Seq + rng.Intn(5)
	if slices.Contains(repeats(), kind) {
		return of(kind, random(rng, depth-1))
	}
	n := of(kind)
	for range 2 + rng.Intn(2) {
		n.Kids = append(n.Kids, random(rng, depth-1))
	}
	return n
}

// model is what the chapter's terms say of a list of expressions.
type model struct {
	leaves []expr.Node // of each position; nothing of 0
	pairs  map[[2]int]bool
	tells  []uint64 // of each position
}

// numbered is an expression whose leaves are positions: each has its position as its class.
func (m *model) numbered(n expr.Node) expr.Node {
	if len(n.Kids) == 0 {
		if n.Kind == expr.Empty {
			return n
		}
		m.leaves, m.tells = append(m.leaves, n), append(m.tells, 0)
		return class(len(m.leaves) - 1)
	}
	out := of(n.Kind)
	for _, k := range n.Kids {
		out.Kids = append(out.Kids, m.numbered(k))
	}
	return out
}

// newModel reads off lists of positions through which an expression may match.
// Each leaf matches some symbol, whatever the others match: so each such list is there for some list of symbols.
func newModel(l ...expr.Node) *model {
	m := &model{leaves: []expr.Node{nothing()}, pairs: map[[2]int]bool{}, tells: []uint64{0}}
	for i, n := range l {
		from := len(m.leaves)
		x := m.numbered(n)
		// To a leaf and on from it, each leaf is needed at most once.
		for _, list := range traces(x, 2*(len(m.leaves)-from)) {
			last := 0
			for _, p := range list {
				m.pairs[[2]int{last, p}] = true
				last = p
			}
			m.tells[last] |= 1 << i
		}
	}
	return m
}

// traces is all lists, up to a length, that an expression of classes matches.
func traces(n expr.Node, length int) [][]int {
	switch n.Kind {
	case expr.Class:
		if length < 1 {
			return nil
		}
		return [][]int{{n.Class}}
	case expr.Seq:
		out := [][]int{nil}
		for _, k := range n.Kids {
			out = joined(out, traces(k, length), length)
		}
		return out
	case expr.Alt:
		var out [][]int
		for _, k := range n.Kids {
			out = append(out, traces(k, length)...)
		}
		return unlike(out)
	case expr.Maybe:
		return unlike(append(traces(n.Kids[0], length), nil))
	case expr.Star, expr.Plus:
		one := traces(n.Kids[0], length)
		all := one
		for range length {
			all = unlike(append(joined(all, one, length), all...))
		}
		if n.Kind == expr.Star {
			all = append(all, nil)
		}
		return unlike(all)
	}
	return [][]int{nil}
}

// joined is each list of a with each list of b behind it, up to a length.
func joined(a, b [][]int, length int) [][]int {
	var out [][]int
	for _, x := range a {
		for _, y := range b {
			if len(x)+len(y) <= length {
				out = append(out, slices.Concat(x, y))
			}
		}
	}
	return unlike(out)
}

// unlike is lists, each once.
func unlike(l [][]int) [][]int {
	slices.SortFunc(l, slices.Compare)
	return slices.CompactFunc(l, slices.Equal)
}

// takes is which symbols a leaf matches.
func takes(n expr.Node, mark int) bool {
	switch n.Kind {
	case expr.Class:
		return mark == n.Class
	case expr.Any:
		return isClass(mark)
	case expr.Not:
		return isClass(mark) && mark != n.Class
	}
	return n.Kind == expr.Start && mark == 36
}

// step is the chapter's successor.
func (m *model) step(search bool, set []int, mark int) []int {
	var out []int
	if search {
		out = append(out, 0)
	}
	for p := 1; p < len(m.leaves); p++ {
		if takes(m.leaves[p], mark) && slices.ContainsFunc(set, func(q int) bool { return m.pairs[[2]int{q, p}] }) {
			out = append(out, p)
		}
	}
	return out
}

// accepts is the expressions that a set accepts.
func (m *model) accepts(set []int) uint64 {
	var out uint64
	for _, p := range set {
		if 0 <= p && p < len(m.tells) {
			out |= m.tells[p]
		}
	}
	return out
}

// built is the automaton of expressions that are right.
func built(t *testing.T, search bool, l ...expr.Node) *nfa.NFA {
	t.Helper()
	n, err := nfa.New(search, l...)
	if err != api.OK || n == nil {
		t.Fatalf("New(%t, %s): %d", search, texts(l), err)
	}
	return n
}

// texts is how expressions are told of.
func texts(l []expr.Node) string {
	var out []string
	for _, n := range l {
		out = append(out, strconv.Quote(expr.Print(n)))
	}
	return strings.Join(out, ", ")
}

// hold holds what an automaton answers for a set against the chapter's terms.
func (m *model) hold(t *testing.T, n *nfa.NFA, search bool, l []expr.Node, set []int, marks ...int) {
	t.Helper()
	if got, want := n.Tells(set), m.accepts(set); got != want {
		t.Fatalf("%s: Tells(%d): %b, not %b", texts(l), set, got, want)
	}
	for _, mark := range marks {
		if got, want := n.Step(set, mark), m.step(search, set, mark); !slices.Equal(got, want) {
			t.Fatalf("%s, %t: Step(%d, %d): %d, not %d", texts(l), search, set, mark, got, want)
		}
	}
}

// holdNew holds the beginning of an automaton against the chapter's terms.
func (m *model) holdNew(t *testing.T, n *nfa.NFA, l []expr.Node) {
	t.Helper()
	if got := n.Count(); got != len(m.leaves) {
		t.Fatalf("%s: Count: %d, not %d", texts(l), got, len(m.leaves))
	}
	if got := n.Begin(); !slices.Equal(got, []int{0}) {
		t.Fatalf("%s: Begin: %d", texts(l), got)
	}
}
