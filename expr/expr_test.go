package expr_test

import (
	"math"
	"math/rand"
	"slices"
	"testing"

	"virgule/api"
	"virgule/expr"
)

// Classes of layer 4 that the tests use.
const (
	classL = 11
	classV = 12
	classT = 13
)

func class(n int) expr.Node  { return expr.Node{Kind: expr.Class, Class: n} }
func not(n int) expr.Node    { return expr.Node{Kind: expr.Not, Class: n} }
func anyClass() expr.Node    { return expr.Node{Kind: expr.Any} }
func beginning() expr.Node   { return expr.Node{Kind: expr.Start} }
func nothing() expr.Node     { return expr.Node{Kind: expr.Empty} }
func mark(n int) []int       { return []int{n} }
func leaves() []expr.Node    { return []expr.Node{class(classL), anyClass(), not(classL), beginning()} }
func repeats() []int         { return []int{expr.Star, expr.Plus, expr.Maybe} }
func isClass(n int) bool     { return 0 <= n && n <= 35 }
func isRepeat(kind int) bool { return slices.Contains(repeats(), kind) }

func of(kind int, kids ...expr.Node) expr.Node {
	return expr.Node{Kind: kind, Kids: kids}
}

// sized is all right expressions, but Empty, of that many nodes, over the leaves that the tests use; Seq and Alt have up to three parts.
func sized(nodes int) []expr.Node {
	if nodes < 1 {
		return nil
	}
	if nodes == 1 {
		return leaves()
	}
	var out []expr.Node
	for _, k := range sized(nodes - 1) {
		for _, kind := range repeats() {
			out = append(out, of(kind, k))
		}
	}
	for a := 1; a < nodes-1; a++ {
		for _, first := range sized(a) {
			for _, second := range sized(nodes - 1 - a) {
				out = append(out, of(expr.Seq, first, second), of(expr.Alt, first, second))
			}
			for b := 1; a+b < nodes-1; b++ {
				for _, second := range sized(b) {
					for _, third := range sized(nodes - 1 - a - b) {
						out = append(out, of(expr.Seq, first, second, third), of(expr.Alt, first, second, third))
					}
				}
			}
		}
	}
	return out
}

// small is all right expressions of a few nodes.
func small() []expr.Node {
	out := []expr.Node{nothing()}
	for nodes := 1; nodes <= 4; nodes++ {
		out = append(out, sized(nodes)...)
	}
	return out
}

// random is some right expression that isn't Empty.
func random(rng *rand.Rand, depth int) expr.Node {
	if depth == 0 || rng.Intn(4) == 0 {
		switch rng.Intn(4) {
		case 0:
			return class(rng.Intn(api.Classes))
		case 1:
			return not(rng.Intn(api.Classes))
		case 2:
			return anyClass()
		}
		return beginning()
	}
	kind := expr.Seq + rng.Intn(5)
	if isRepeat(kind) {
		return of(kind, random(rng, depth-1))
	}
	n := of(kind)
	for range 2 + rng.Intn(2) {
		n.Kids = append(n.Kids, random(rng, depth-1))
	}
	return n
}

// matches is the chapter's definition, by all ways to part a list.
func matches(n expr.Node, l []int) bool {
	one := len(l) == 1
	switch n.Kind {
	case expr.Class:
		return one && l[0] == n.Class
	case expr.Any:
		return one && isClass(l[0])
	case expr.Not:
		return one && isClass(l[0]) && l[0] != n.Class
	case expr.Start:
		return one && l[0] == 36
	case expr.Seq:
		return matchesAll(n.Kids, l)
	case expr.Alt:
		return slices.ContainsFunc(n.Kids, func(k expr.Node) bool { return matches(k, l) })
	case expr.Star:
		return matchesMany(n.Kids[0], l)
	case expr.Plus:
		return matches(n.Kids[0], l) || len(l) > 0 && matchesMany(n.Kids[0], l)
	case expr.Maybe:
		return len(l) == 0 || matches(n.Kids[0], l)
	}
	return len(l) == 0
}

func matchesAll(kids []expr.Node, l []int) bool {
	if len(kids) == 0 {
		return len(l) == 0
	}
	for i := range len(l) + 1 {
		if matches(kids[0], l[:i]) && matchesAll(kids[1:], l[i:]) {
			return true
		}
	}
	return false
}

func matchesMany(n expr.Node, l []int) bool {
	if len(l) == 0 {
		return true
	}
	for i := 1; i <= len(l); i++ {
		if matches(n, l[:i]) && matchesMany(n, l[i:]) {
			return true
		}
	}
	return false
}

// lists is all lists of some marks, up to a length, the shorter ones first.
func lists(length int, marks ...int) [][]int {
	out := [][]int{nil}
	for from := 0; length > 0; length-- {
		to := len(out)
		for _, l := range out[from:to] {
			for _, m := range marks {
				out = append(out, append(slices.Clone(l), m))
			}
		}
		from = to
	}
	return out
}

// held tells whether an expression has a node of a kind, or of another one.
func held(n expr.Node, kinds ...int) bool {
	return slices.Contains(kinds, n.Kind) || slices.ContainsFunc(n.Kids, func(k expr.Node) bool { return held(k, kinds...) })
}

func TestMatchesSmall(t *testing.T) {
	// No small expression has more leaves than the lists have marks, so they also tell the lengths.
	all := lists(4, classL, classV, 36)
	for _, n := range small() {
		shortest, longest := -1, 0
		for _, l := range all {
			want := matches(n, l)
			if got := expr.Matches(n, l...); got != want {
				t.Fatalf("Matches(%q, %d): %t", expr.Print(n), l, got)
			}
			if want && shortest < 0 {
				shortest = len(l)
			}
			if want {
				longest = len(l)
			}
		}
		if got := expr.Shortest(n); got != shortest {
			t.Fatalf("Shortest(%q): %d, not %d", expr.Print(n), got, shortest)
		}
		bounded := !held(n, expr.Star, expr.Plus)
		if !bounded {
			longest = 0
		}
		if got, ok := expr.Longest(n); got != longest || ok != bounded {
			t.Fatalf("Longest(%q): %d %t, not %d %t", expr.Print(n), got, ok, longest, bounded)
		}
	}
}

func TestMatchesRandom(t *testing.T) {
	rng := rand.New(rand.NewSource(5))
	for range 3000 {
		n := random(rng, 4)
		for range 20 {
			l := make([]int, rng.Intn(6))
			for i := range l {
				l[i] = rng.Intn(39) - 1
			}
			if got := expr.Matches(n, l...); got != matches(n, l) {
				t.Fatalf("Matches(%q, %d): %t", expr.Print(n), l, got)
			}
		}
	}
}

func TestLeaves(t *testing.T) {
	numbers := []int{math.MinInt, -37, -36, -1, 37, 38, 72, 256, math.MaxInt}
	for n := range 37 {
		numbers = append(numbers, n)
	}
	for _, n := range numbers {
		for c := range api.Classes {
			if got, want := expr.Matches(class(c), n), n == c; got != want {
				t.Errorf("Class %d, %d: %t", c, n, got)
			}
			if got, want := expr.Matches(not(c), n), isClass(n) && n != c; got != want {
				t.Errorf("Not %d, %d: %t", c, n, got)
			}
		}
		if got := expr.Matches(anyClass(), n); got != isClass(n) {
			t.Errorf("Any, %d: %t", n, got)
		}
		if got := expr.Matches(beginning(), n); got != (n == 36) {
			t.Errorf("Start, %d: %t", n, got)
		}
		if expr.Matches(nothing(), n) {
			t.Errorf("Empty, %d", n)
		}
	}
	for _, n := range leaves() {
		if expr.Matches(n) || expr.Matches(n, 36, 36) || expr.Matches(n, 1, 1) {
			t.Error("a list that isn't of one mark", n)
		}
	}
	if !expr.Matches(nothing()) || !expr.Matches(nothing(), []int{}...) {
		t.Error("Empty, no marks")
	}
	if !expr.Matches(of(expr.Seq, class(classL), beginning()), classL, 36) {
		t.Error("the beginning behind something")
	}
}

// TestMatchesLong asks what ways of trying one thing after the other never end with.
func TestMatchesLong(t *testing.T) {
	n := class(classL)
	for range 500 {
		n = of(expr.Star, of(expr.Plus, n))
	}
	l := slices.Repeat(mark(classL), 3000)
	if !expr.Matches(n, l...) || expr.Matches(n, append(l, classV)...) {
		t.Error("repeats within one another")
	}
	s := of(expr.Seq)
	for range 600 {
		s.Kids = append(s.Kids, of(expr.Maybe, class(classL)))
	}
	for range 600 {
		s.Kids = append(s.Kids, class(classL))
	}
	for length, want := range map[int]bool{599: false, 600: true, 900: true, 1200: true, 1201: false} {
		if got := expr.Matches(s, slices.Repeat(mark(classL), length)...); got != want {
			t.Error("many that may be missing", length, got)
		}
	}
	long := slices.Repeat([]int{classL, classV}, api.MaxLen/2)
	if !expr.Matches(of(expr.Star, of(expr.Seq, class(classL), anyClass())), long...) {
		t.Error("many marks")
	}
}

// wrong is expressions that are not valid by themselves, each for one reason.
func wrong() map[string]expr.Node {
	l := class(classL)
	out := map[string]expr.Node{
		"a class below 0":        class(-1),
		"a class above 35":       class(36),
		"the least class":        class(math.MinInt),
		"the greatest class":     class(math.MaxInt),
		"not below 0":            not(-1),
		"not above 35":           not(36),
		"a kind below 0":         {Kind: -1},
		"a kind above all":       {Kind: 10},
		"a kind above, a part":   of(10, l),
		"the least kind":         {Kind: math.MinInt},
		"the greatest kind":      {Kind: math.MaxInt},
		"any with a class":       {Kind: expr.Any, Class: 1},
		"any, a class below":     {Kind: expr.Any, Class: -1},
		"start with a class":     {Kind: expr.Start, Class: 36},
		"empty with a class":     {Kind: expr.Empty, Class: 1},
		"seq with a class":       {Kind: expr.Seq, Class: 1, Kids: []expr.Node{l, l}},
		"alt with a class":       {Kind: expr.Alt, Class: 1, Kids: []expr.Node{l, l}},
		"star with a class":      {Kind: expr.Star, Class: 1, Kids: []expr.Node{l}},
		"plus with a class":      {Kind: expr.Plus, Class: 1, Kids: []expr.Node{l}},
		"maybe with a class":     {Kind: expr.Maybe, Class: 1, Kids: []expr.Node{l}},
		"a class with a part":    {Kind: expr.Class, Class: 1, Kids: []expr.Node{l}},
		"any with a part":        of(expr.Any, l),
		"not with a part":        of(expr.Not, l),
		"start with a part":      of(expr.Start, l),
		"empty with a part":      of(expr.Empty, l),
		"empty with empty":       of(expr.Empty, nothing()),
		"seq of none":            of(expr.Seq),
		"seq of one":             of(expr.Seq, l),
		"alt of none":            of(expr.Alt),
		"alt of one":             of(expr.Alt, l),
		"empty in a seq":         of(expr.Seq, nothing(), l),
		"empty in a seq, last":   of(expr.Seq, l, nothing()),
		"empty in an alt":        of(expr.Alt, l, l, nothing()),
		"too many":               of(expr.Seq, slices.Repeat([]expr.Node{l}, expr.MaxNodes)...),
		"more than can be named": doubled(200),
	}
	for _, kind := range repeats() {
		name := string(rune('0' + kind))
		out[name+" of none"] = of(kind)
		out[name+" of two"] = of(kind, l, l)
		out[name+" of empty"] = of(kind, nothing())
	}
	return out
}

// doubled has 2^(n+1) - 1 nodes, of which it shares nearly all.
func doubled(n int) expr.Node {
	out := class(classL)
	for range n {
		out = of(expr.Seq, out, out)
	}
	return out
}

func TestWrong(t *testing.T) {
	for name, n := range wrong() {
		deep := of(expr.Alt, class(classL), of(expr.Star, of(expr.Seq, class(classV), n)))
		for _, x := range []expr.Node{n, deep} {
			if expr.Right(x) || expr.Print(x) != "" {
				t.Error(name, "is valid")
			}
			if expr.Matches(x) || expr.Matches(x, classL) || expr.Matches(x, -1) || expr.Matches(x, 36) {
				t.Error(name, "matches")
			}
			if k, ok := expr.Longest(x); k != 0 || ok || expr.Shortest(x) != 0 {
				t.Error(name, "has a length")
			}
			for kind := -1; kind < 12; kind++ {
				if expr.Has(x, kind) {
					t.Error(name, "has", kind)
				}
			}
			if expr.Has(x, n.Kind) || !expr.Same(x, x) {
				t.Error(name, "has its kind, or isn't like itself")
			}
		}
	}
}

func TestRight(t *testing.T) {
	for _, n := range small() {
		if !expr.Right(n) {
			t.Fatal(n, "is not valid")
		}
	}
	for c := range api.Classes {
		if !expr.Right(class(c)) || !expr.Right(not(c)) {
			t.Error(c, "is no class")
		}
	}
	if !expr.Right(expr.Node{}) || !expr.Right(expr.Node{Kind: expr.Any, Kids: []expr.Node{}}) {
		t.Error("a list of no parts")
	}
}

// TestMaxNodes holds wide and deep expressions against the limit.
func TestMaxNodes(t *testing.T) {
	for nodes, want := range map[int]bool{expr.MaxNodes - 1: true, expr.MaxNodes: true, expr.MaxNodes + 1: false, 3 * expr.MaxNodes: false} {
		wide := of(expr.Alt, slices.Repeat([]expr.Node{anyClass()}, nodes-1)...)
		deep := anyClass()
		for range nodes - 1 {
			deep = of(expr.Maybe, deep)
		}
		for _, n := range []expr.Node{wide, deep} {
			if expr.Right(n) != want || expr.Matches(n, 5) != want || (expr.Print(n) != "") != want || expr.Has(n, expr.Any) != want {
				t.Errorf("%d nodes: not %t", nodes, want)
			}
			if k, ok := expr.Longest(n); ok != want || (k == 1) != want {
				t.Errorf("%d nodes: %d %t", nodes, k, ok)
			}
		}
		if got := expr.Shortest(wide) == 1; got != want {
			t.Errorf("%d nodes: Shortest", nodes)
		}
	}
}

func TestHas(t *testing.T) {
	for _, n := range small() {
		for kind := -1; kind < 12; kind++ {
			if got := expr.Has(n, kind); got != held(n, kind) {
				t.Fatalf("Has(%q, %d): %t", expr.Print(n), kind, got)
			}
		}
	}
}

// text tells a node and all within it, so that no two expressions are told alike.
func text(n expr.Node) string {
	out := string(rune('0'+n.Kind)) + string(rune('A'+n.Class)) + "("
	for _, k := range n.Kids {
		out += text(k)
	}
	return out + ")"
}

func TestSame(t *testing.T) {
	l := append(small()[:120], class(0), class(1), not(0), expr.Node{Kind: 10}, of(expr.Seq), of(expr.Seq, class(classL)), of(expr.Class, class(classL)))
	for _, a := range l {
		for _, b := range l {
			if got := expr.Same(a, b); got != (text(a) == text(b)) {
				t.Fatalf("Same of %s, %s: %t", text(a), text(b), got)
			}
		}
	}
	if !expr.Same(expr.Node{Kids: []expr.Node{}}, expr.Node{}) {
		t.Error("no parts, and an empty list of them")
	}
}

// TestSameShared holds expressions against each other that have more nodes than could be gone through.
func TestSameShared(t *testing.T) {
	a, b := doubled(300), doubled(300)
	if !expr.Same(a, a) || !expr.Same(a, b) || expr.Same(a, doubled(299)) || expr.Same(doubled(301), b) {
		t.Error("parts that are shared")
	}
	shared := []expr.Node{class(1), class(2), class(3)}
	if expr.Same(of(expr.Seq, shared[:2]...), of(expr.Seq, shared...)) || expr.Same(of(expr.Seq, shared[:2]...), of(expr.Seq, shared[1:]...)) {
		t.Error("parts of one list")
	}
	// The same nodes are within both, but not at the same places.
	x, y := of(expr.Seq, shared[:2]...), of(expr.Seq, shared[1:]...)
	if expr.Same(of(expr.Alt, x, x, y), of(expr.Alt, x, x, x)) || !expr.Same(of(expr.Alt, x, y, x), of(expr.Alt, x, y, x)) {
		t.Error("lists that are shared")
	}
}

func TestSameDeep(t *testing.T) {
	deep := func(n expr.Node) expr.Node {
		for range 1 << 16 {
			n = of(expr.Star, n)
		}
		return n
	}
	if !expr.Same(deep(class(1)), deep(class(1))) || expr.Same(deep(class(1)), deep(class(2))) || expr.Right(deep(class(1))) {
		t.Error("many levels")
	}
}

// TestKeeps holds arguments against what they were ahead of the calls.
func TestKeeps(t *testing.T) {
	n := of(expr.Seq, class(classL), of(expr.Star, of(expr.Alt, class(classV), class(classT))))
	marks := []int{classL, classV, classT, 99}[:3]
	before := text(n)
	if !expr.Matches(n, marks...) || expr.Print(n) != "L (V|T)*" || expr.Shortest(n) != 1 {
		t.Error("Matches, Print, Shortest")
	}
	expr.Right(n)
	expr.Longest(n)
	expr.Has(n, expr.Alt)
	expr.Same(n, n)
	if text(n) != before || !slices.Equal(marks[:4], []int{classL, classV, classT, 99}) {
		t.Error("an argument was changed")
	}
}
