package nfa_test

import (
	"math"
	"slices"
	"testing"

	"virgule/api"
	"virgule/expr"
	"virgule/nfa"
)

// many is a node of many of the same part.
func many(kind, count int, part expr.Node) expr.Node {
	return of(kind, slices.Repeat([]expr.Node{part}, count)...)
}

// doubled has 2^(n+1) - 1 nodes, of which it shares nearly all.
func doubled(n int) expr.Node {
	x := class(classL)
	for range n {
		x = of(expr.Seq, x, x)
	}
	return x
}

// wrong is expressions that are not valid.
func wrong() map[string]expr.Node {
	l := class(classL)
	return map[string]expr.Node{
		"a class below 0":         class(-1),
		"a class above 35":        class(36),
		"the greatest class":      class(math.MaxInt),
		"not above 35":            not(36),
		"the least class":         not(math.MinInt),
		"a kind below 0":          {Kind: -1},
		"a kind above all":        {Kind: 10},
		"any with a class":        {Kind: expr.Any, Class: 1},
		"start with a class":      {Kind: expr.Start, Class: 36},
		"empty with a class":      {Kind: expr.Empty, Class: 1},
		"a class with a part":     of(expr.Class, l),
		"any with a part":         of(expr.Any, l),
		"empty with a part":       of(expr.Empty, l),
		"seq of none":             of(expr.Seq),
		"seq of one":              of(expr.Seq, l),
		"alt of one":              of(expr.Alt, l),
		"star of none":            of(expr.Star),
		"plus of two":             of(expr.Plus, l, l),
		"maybe of empty":          of(expr.Maybe, nothing()),
		"empty in a seq":          of(expr.Seq, l, nothing()),
		"empty in an alt":         of(expr.Alt, nothing(), l),
		"wrong far within":        of(expr.Star, of(expr.Alt, l, of(expr.Seq, l, of(expr.Plus, class(40))))),
		"too many nodes":          many(expr.Seq, expr.MaxNodes, l),
		"more than can be walked": doubled(200),
	}
}

// fails holds the error of expressions against what is asked.
func fails(t *testing.T, what string, want api.Errno, l ...expr.Node) {
	t.Helper()
	for _, search := range []bool{false, true} {
		if n, err := nfa.New(search, l...); n != nil || err != want {
			t.Errorf("%s, %t: %v, %d, not %d", what, search, n != nil, err, want)
		}
	}
}

func TestWrong(t *testing.T) {
	for what, x := range wrong() {
		fails(t, what, api.ErrArg, x)
		fails(t, what+", the last one", api.ErrArg, class(classL), nothing(), x)
		fails(t, what+", the first one", api.ErrArg, x, class(classL), class(classL))
		fails(t, what+", in a full list", api.ErrArg, append(slices.Repeat([]expr.Node{class(1)}, 39), x)...)
	}
}

// TestMaxRules has a leaf in each of as many expressions as may be: each has a bit of its own.
func TestMaxRules(t *testing.T) {
	l := make([]expr.Node, api.MaxRules)
	for i := range l {
		l[i] = class(i % api.Classes)
	}
	n := built(t, true, l...)
	if n.Count() != 41 {
		t.Fatal(n.Count())
	}
	m := newModel(l...)
	for _, set := range [][]int{{0}, {40}, {1}, {0, 1, 37, 40}, n.Step(n.Begin(), 0), n.Step(n.Begin(), 3)} {
		m.hold(t, n, true, l, set, append(symbols(), wild()...)...)
	}
	if got := n.Tells(n.Step(n.Begin(), 3)); got != 1<<3|1<<39 {
		t.Errorf("%b", got)
	}
	none := slices.Repeat([]expr.Node{nothing()}, api.MaxRules)
	if n := built(t, false, none...); n.Count() != 1 || n.Tells([]int{0}) != 1<<40-1 {
		t.Errorf("%d, %b", n.Count(), n.Tells([]int{0}))
	}
	fails(t, "one more", api.ErrLong, append(l, class(0))...)
	fails(t, "one more that is empty", api.ErrLong, append(none, nothing())...)
	fails(t, "many more", api.ErrLong, slices.Repeat(l, 100)...)
}

// TestMaxStates counts the beginning as a position.
func TestMaxStates(t *testing.T) {
	const most = api.MaxStates - 1
	for _, kind := range []int{expr.Seq, expr.Alt} {
		full := many(kind, most, anyClass())
		if n := built(t, false, full); n.Count() != api.MaxStates {
			t.Error(n.Count())
		}
		if n := built(t, true, nothing(), full, nothing()); n.Count() != api.MaxStates {
			t.Error(n.Count())
		}
		fails(t, "one more", api.ErrStates, many(kind, most+1, anyClass()))
		fails(t, "one more, by itself", api.ErrStates, full, beginning())
		fails(t, "one more, first", api.ErrStates, class(0), full)
		fails(t, "as many nodes as may be", api.ErrStates, many(kind, expr.MaxNodes-1, anyClass()))
		fails(t, "far more", api.ErrStates, slices.Repeat([]expr.Node{full}, api.MaxRules)...)
	}
	l := slices.Repeat([]expr.Node{many(expr.Alt, 25, beginning())}, 39)
	l = append(l, many(expr.Seq, most-39*25, of(expr.Plus, not(3))))
	if n := built(t, true, l...); n.Count() != api.MaxStates {
		t.Error(n.Count())
	}
	l[39] = many(expr.Seq, api.MaxStates-39*25, not(3))
	fails(t, "one more in forty", api.ErrStates, l...)
	if n := built(t, true, doubled(9)); n.Count() != 513 {
		t.Error("shared parts", n.Count())
	}
}

// TestOrder has several errors at once.
func TestOrder(t *testing.T) {
	long := slices.Repeat([]expr.Node{class(0)}, api.MaxRules+1)
	wide := many(expr.Seq, api.MaxStates, class(0))
	bad := of(expr.Star)
	fails(t, "too many, one is wrong", api.ErrLong, append(long, bad)...)
	fails(t, "too many, the first is wrong", api.ErrLong, append([]expr.Node{bad}, long...)...)
	fails(t, "too many, and too many positions", api.ErrLong, append(long, wide)...)
	fails(t, "too many, all at once", api.ErrLong, append([]expr.Node{wide, bad}, long...)...)
	fails(t, "too many positions, one is wrong", api.ErrArg, wide, bad)
	fails(t, "one is wrong, too many positions", api.ErrArg, bad, wide)
	fails(t, "too many positions in several, one is wrong", api.ErrArg, wide, wide, wide, bad)
	fails(t, "too many positions where it is wrong", api.ErrArg, of(expr.Seq, wide, bad))
}

// from is all numbers from one up to another one.
func from(a, b int) []int {
	var out []int
	for ; a <= b; a++ {
		out = append(out, a)
	}
	return out
}

// TestFull asks automata of as many positions as may be.
func TestFull(t *testing.T) {
	const most = api.MaxStates - 1
	all := from(1, most)
	chain := built(t, false, many(expr.Seq, most, of(expr.Maybe, anyClass())))
	strict := built(t, false, many(expr.Seq, most, anyClass()))
	loop := of(expr.Alt, slices.Repeat([]expr.Node{anyClass()}, most)...)
	for range expr.MaxNodes - 1 - most {
		loop = of(expr.Star, loop)
	}
	deep := built(t, false, loop)
	for p := range api.MaxStates {
		var after []int
		if p < most {
			after = []int{p + 1}
		}
		if got := chain.Step([]int{p}, classL); !slices.Equal(got, from(p+1, most)) {
			t.Fatal("parts that may be missing", p, got)
		}
		if got := strict.Step([]int{p}, classL); !slices.Equal(got, after) {
			t.Fatal("parts behind one another", p, got)
		}
		if got := deep.Step([]int{p}, classL); !slices.Equal(got, all) {
			t.Fatal("repeats within one another", p, got)
		}
		if got := strict.Tells([]int{p}); chain.Tells([]int{p}) != 1 || deep.Tells([]int{p}) != 1 || got != 1 != (p < most) {
			t.Fatal("Tells", p, got)
		}
	}
	if got := strict.Step(append([]int{most, most - 1, most, 500, 0, -1, 1000}, all...), classL); !slices.Equal(got, all) {
		t.Error("all at once", got)
	}
	for _, mark := range wild() {
		if got := deep.Step(all, mark); len(got) != 0 {
			t.Error("what is no symbol", mark, got)
		}
	}
	if got := deep.Step(all, 36); len(got) != 0 {
		t.Error("the beginning isn't any class", got)
	}
	for _, p := range []int{math.MinInt, -api.MaxStates, -64, -1, api.MaxStates, 1023, 1024, 4096, math.MaxInt} {
		if got := deep.Step([]int{p}, classL); len(got) != 0 || deep.Tells([]int{p}) != 0 {
			t.Error("what is no position", p, got)
		}
	}
}
