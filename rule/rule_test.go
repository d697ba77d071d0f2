package rule_test

import (
	"math"
	"math/rand"
	"slices"
	"strconv"
	"strings"
	"testing"

	"virgule/api"
	"virgule/expr"
	"virgule/prop"
	"virgule/rule"
)

// Classes of layer 4 that the tests use.
const (
	cr     = 1
	lf     = 2
	extend = 5
	format = 7
	classL = 11
	classV = 12
	classT = 13
)

func class(n int) expr.Node { return expr.Node{Kind: expr.Class, Class: n} }
func not(n int) expr.Node   { return expr.Node{Kind: expr.Not, Class: n} }
func anyClass() expr.Node   { return expr.Node{Kind: expr.Any} }
func beginning() expr.Node  { return expr.Node{Kind: expr.Start} }
func nothing() expr.Node    { return expr.Node{Kind: expr.Empty} }

func of(kind int, kids ...expr.Node) expr.Node {
	return expr.Node{Kind: kind, Kids: kids}
}

// seqOf is a Seq of a node, many times.
func seqOf(n expr.Node, times int) expr.Node {
	return of(expr.Seq, slices.Repeat([]expr.Node{n}, times)...)
}

// joins and breaks are rules of both kinds.
func joins(left, right expr.Node) rule.Rule { return rule.Rule{Left: left, Right: right} }
func breaks(left, right expr.Node) rule.Rule {
	return rule.Rule{Left: left, Right: right, Break: true}
}

// rules is a rule set without lists.
func rules(l ...rule.Rule) rule.Text { return rule.Text{Rules: l} }

// listed is a rule set of a rule and two lists.
func listed(ignore, keep []int, l ...rule.Rule) rule.Text {
	return rule.Text{Ignore: ignore, Keep: keep, Rules: l}
}

// written is all that is in an expression.
func written(n expr.Node) string {
	out := strconv.Itoa(n.Kind) + "." + strconv.Itoa(n.Class)
	for _, k := range n.Kids {
		out += "[" + written(k) + "]"
	}
	return out
}

// all is all that is in a rule set.
func all(t rule.Text) string {
	var out strings.Builder
	for _, l := range [][]int{t.Ignore, t.Keep} {
		for _, class := range l {
			out.WriteString(strconv.Itoa(class) + ",")
		}
		out.WriteString(";")
	}
	for _, r := range t.Rules {
		out.WriteString(written(r.Left) + " " + strconv.FormatBool(r.Break) + " " + written(r.Right) + "\n")
	}
	return out.String()
}

// random is some right expression that isn't Empty.
func random(rng *rand.Rand, depth int) expr.Node {
	if depth == 0 || rng.Intn(3) == 0 {
		return []expr.Node{class(rng.Intn(api.Classes)), not(rng.Intn(api.Classes)), anyClass(), beginning()}[rng.Intn(4)]
	}
	kind := expr.Seq + rng.Intn(5)
	if kind >= expr.Star {
		return of(kind, random(rng, depth-1))
	}
	n := of(kind)
	for range 2 + rng.Intn(2) {
		n.Kids = append(n.Kids, random(rng, depth-1))
	}
	return n
}

// holds tells whether an expression has a node of one of the kinds.
func holds(n expr.Node, kinds ...int) bool {
	return slices.Contains(kinds, n.Kind) || slices.ContainsFunc(n.Kids, func(k expr.Node) bool { return holds(k, kinds...) })
}

// width is how long the longest list of an expression without Star and Plus is.
func width(n expr.Node) int {
	switch {
	case n.Kind == expr.Empty:
		return 0
	case n.Kind == expr.Seq:
		sum := 0
		for _, k := range n.Kids {
			sum += width(k)
		}
		return sum
	case len(n.Kids) > 0:
		most := 0
		for _, k := range n.Kids {
			most = max(most, width(k))
		}
		return most
	}
	return 1
}

// mayLookAhead tells whether an expression may be a rule's right one.
func mayLookAhead(n expr.Node) bool {
	return !holds(n, expr.Start, expr.Star, expr.Plus) && width(n) <= 4
}

// randomSide is Empty, or some right expression.
func randomSide(rng *rand.Rand) expr.Node {
	if rng.Intn(4) == 0 {
		return nothing()
	}
	return random(rng, 3)
}

// randomList is some classes that rise.
func randomList(rng *rand.Rand) []int {
	var l []int
	for range rng.Intn(5) {
		l = append(l, rng.Intn(api.Classes))
	}
	slices.Sort(l)
	return slices.Compact(l)
}

// randomText is some valid rule set.
func randomText(rng *rand.Rand) rule.Text {
	t := listed(randomList(rng), randomList(rng))
	for range rng.Intn(6) {
		right := randomSide(rng)
		for !mayLookAhead(right) {
			right = randomSide(rng)
		}
		t.Rules = append(t.Rules, rule.Rule{Left: randomSide(rng), Right: right, Break: rng.Intn(2) == 0})
	}
	return t
}

// text is a valid rule set's text, by the chapter.
func text(t rule.Text) string {
	var out strings.Builder
	for i, l := range [][]int{t.Ignore, t.Keep} {
		if len(l) == 0 {
			continue
		}
		words := []string{[]string{"ignore", "keep"}[i]}
		for _, class := range l {
			words = append(words, prop.Name(class))
		}
		out.WriteString(strings.Join(words, " ") + "\n")
	}
	for _, r := range t.Rules {
		sign := "!"
		if r.Break {
			sign = "/"
		}
		words := []string{expr.Print(r.Left), sign, expr.Print(r.Right)}
		out.WriteString(strings.Join(slices.DeleteFunc(words, func(s string) bool { return s == "" }), " ") + "\n")
	}
	return out.String()
}

func TestPrintTexts(t *testing.T) {
	l, v := class(classL), class(classV)
	for s, x := range map[string]rule.Text{
		"":                      {},
		"!\n":                   rules(joins(nothing(), nothing())),
		"/\n":                   rules(breaks(nothing(), nothing())),
		"L !\n":                 rules(joins(l, nothing())),
		"/ L\n":                 rules(breaks(nothing(), l)),
		"L ! V\nV / L\nL ! V\n": rules(joins(l, v), breaks(v, l), joins(l, v)),
		"^ L* ! L V|any?\n":     rules(joins(of(expr.Seq, beginning(), of(expr.Star, l)), of(expr.Alt, of(expr.Seq, l, v), of(expr.Maybe, anyClass())))),
		"L|V / (L|V) ~L\n":      rules(breaks(of(expr.Alt, l, v), of(expr.Seq, of(expr.Alt, l, v), not(classL)))),
		"ignore Extend\n":       listed([]int{extend}, nil),
		"keep CR LF\n":          listed([]int{}, []int{cr, lf}),
		"ignore Other Extend Format Gap\nkeep Other Gap\n/ L\n": listed([]int{0, extend, format, 35}, []int{0, 35}, breaks(nothing(), l)),
	} {
		if got := rule.Print(x); got != s {
			t.Errorf("%q, not %q", got, s)
		}
		if !rule.Right(x) {
			t.Errorf("%q is not valid", s)
		}
	}
}

func TestPrintedIsParsed(t *testing.T) {
	rng := rand.New(rand.NewSource(6))
	for range 3000 {
		x := randomText(rng)
		s := rule.Print(x)
		if want := text(x); s != want || !rule.Right(x) {
			t.Fatalf("%q, not %q", s, want)
		}
		if len(s) <= api.MaxRuled {
			parses(t, s, x)
		}
	}
}

// sideFaults tells of expressions that are right, whether they may be a rule's right one.
func sideFaults() map[bool][]expr.Node {
	l := class(classL)
	return map[bool][]expr.Node{
		true: {
			nothing(), l, seqOf(l, 4), of(expr.Maybe, seqOf(anyClass(), 4)), of(expr.Alt, l, seqOf(not(classL), 4)),
			of(expr.Seq, seqOf(l, 2), of(expr.Maybe, l), of(expr.Alt, l, l)), seqOf(of(expr.Maybe, l), 4),
			of(expr.Alt, slices.Repeat([]expr.Node{l}, expr.MaxNodes-1)...),
		},
		false: {
			beginning(), of(expr.Star, l), of(expr.Plus, l), of(expr.Alt, l, of(expr.Maybe, beginning())),
			of(expr.Seq, l, of(expr.Star, l)), of(expr.Maybe, of(expr.Alt, l, of(expr.Plus, l))),
			seqOf(l, 5), seqOf(of(expr.Maybe, l), 5), of(expr.Alt, l, seqOf(l, 5)), of(expr.Maybe, seqOf(anyClass(), 5)),
			of(expr.Seq, seqOf(l, 2), of(expr.Maybe, l), seqOf(l, 2)), seqOf(l, expr.MaxNodes-1),
		},
	}
}

// wrongSides is expressions that are not valid.
func wrongSides() []expr.Node {
	l := class(classL)
	return []expr.Node{
		class(36), class(-1), not(36), {Kind: 10}, {Kind: -1}, {Kind: expr.Any, Class: 1}, of(expr.Seq, l), of(expr.Star),
		of(expr.Alt, l, nothing()), of(expr.Maybe, nothing()), {Kind: expr.Empty, Class: 1}, seqOf(l, expr.MaxNodes),
	}
}

// wrongLists is lists that may not be.
func wrongLists() [][]int {
	return [][]int{{-1}, {36}, {math.MinInt}, {math.MaxInt}, {5, 5}, {6, 5}, {1, 2, 2}, {1, 3, 2}, {-1, 5}, {5, 36}, {0, 0}, {35, 0}}
}

// wrong holds that a rule set is not valid.
func wrong(t *testing.T, x rule.Text) {
	t.Helper()
	if rule.Right(x) || rule.Print(x) != "" {
		t.Errorf("%s is valid", all(x))
	}
	if !rule.Same(x, x) {
		t.Errorf("%s is not like itself", all(x))
	}
}

func TestRightSides(t *testing.T) {
	l := class(classL)
	for may, nodes := range sideFaults() {
		for _, n := range nodes {
			ahead, behind := rules(joins(l, l), breaks(l, n)), rules(joins(n, l), breaks(l, l))
			if !rule.Right(behind) || rule.Print(behind) != text(behind) {
				t.Errorf("%s on the left is not valid", written(n))
			}
			if may && (!rule.Right(ahead) || rule.Print(ahead) != text(ahead)) {
				t.Errorf("%s on the right is not valid", written(n))
			}
			if !may {
				wrong(t, ahead)
			}
		}
	}
	for _, n := range wrongSides() {
		wrong(t, rules(joins(l, n)))
		wrong(t, rules(breaks(n, l)))
		wrong(t, rules(joins(l, l), breaks(l, nothing()), joins(n, nothing())))
		wrong(t, listed([]int{1}, []int{2}, joins(nothing(), n)))
	}
}

func TestRightLists(t *testing.T) {
	every := make([]int, api.Classes)
	for i := range every {
		every[i] = i
		if !rule.Right(listed(every[i:i+1], every[:i])) {
			t.Error("a list is not valid", i)
		}
	}
	if !rule.Right(listed(every, every)) || !rule.Right(rule.Text{}) {
		t.Error("all classes, or none")
	}
	for _, l := range wrongLists() {
		wrong(t, listed(l, nil))
		wrong(t, listed(nil, l))
		wrong(t, listed([]int{1, 2}, l, joins(class(1), class(2))))
	}
}

func TestRightMaxRules(t *testing.T) {
	r := joins(class(classL), class(classV))
	for count, right := range map[int]bool{39: true, 40: true, 41: false, 1000: false} {
		x := rules(slices.Repeat([]rule.Rule{r}, count)...)
		if !right {
			wrong(t, x)
		} else if !rule.Right(x) || rule.Print(x) != strings.Repeat("L ! V\n", count) {
			t.Error(count, "rules are not valid")
		}
	}
}

// others is rule sets of which no two are the same, some of them not valid.
func others() []rule.Text {
	l, v := class(classL), class(classV)
	return []rule.Text{
		{}, rules(joins(l, v)), rules(breaks(l, v)), rules(joins(v, l)), rules(joins(l, nothing())), rules(joins(nothing(), l)),
		rules(joins(l, l)), rules(joins(l, v), joins(l, v)), rules(joins(l, v), breaks(l, v)), rules(breaks(l, v), joins(l, v)),
		rules(joins(l, of(expr.Star, v))), rules(joins(l, class(36))), rules(joins(class(-1), v)), rules(joins(of(expr.Seq, l, v), v)),
		listed([]int{1}, nil), listed(nil, []int{1}), listed([]int{1}, []int{1}), listed([]int{1, 2}, nil), listed([]int{2, 1}, nil),
		listed([]int{1, 1}, nil), listed([]int{36}, nil), listed([]int{-1}, nil), listed(nil, []int{1, 36}), listed([]int{0}, nil),
		listed([]int{1}, nil, joins(l, v)), listed(nil, []int{1}, joins(l, v)), rules(slices.Repeat([]rule.Rule{joins(l, v)}, 41)...),
	}
}

func TestSame(t *testing.T) {
	again := others()
	for i, a := range others() {
		for j, b := range again {
			if got := rule.Same(a, b); got != (i == j) {
				t.Errorf("Same(%s, %s): %t", all(a), all(b), got)
			}
		}
	}
	empty := rule.Text{Ignore: []int{}, Keep: []int{}, Rules: []rule.Rule{}}
	if !rule.Same(empty, rule.Text{}) || !rule.Same(rule.Text{}, empty) || !rule.Right(empty) {
		t.Error("empty lists, and none")
	}
	rng := rand.New(rand.NewSource(7))
	for range 500 {
		a, b := randomText(rng), randomText(rng)
		if got := rule.Same(a, b); got != (all(a) == all(b)) || !rule.Same(a, a) {
			t.Fatalf("Same(%s, %s): %t", all(a), all(b), got)
		}
	}
}

// TestKeeps holds arguments, and what lies behind their ends, against what they were ahead of the calls.
func TestKeeps(t *testing.T) {
	lists := [][]int{{1, 2, 99}, {3, 4, 98}}
	l := []rule.Rule{joins(class(classL), of(expr.Alt, class(classT), class(classV))), breaks(class(77), class(77))}
	x := listed(lists[0][:2], lists[1][:2], l[:1]...)
	before := all(listed(lists[0], lists[1], l...))
	if !rule.Right(x) || !rule.Same(x, x) || rule.Print(x) != "ignore CR LF\nkeep Newline Control\nL ! T|V\n" {
		t.Error("Right, Same, Print", rule.Print(x))
	}
	if all(listed(lists[0], lists[1], l...)) != before {
		t.Error("an argument was changed")
	}
}
