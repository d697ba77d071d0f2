package table_test

import (
	"math"
	"math/rand"
	"slices"
	"strings"
	"testing"

	"virgule/api"
	"virgule/dfa"
	"virgule/expr"
	"virgule/least"
	"virgule/nfa"
	"virgule/pack"
	"virgule/prop"
	"virgule/rule"
	"virgule/squeeze"
	"virgule/table"
)

// class, anyClass and nothing are expressions without parts.
func class(class int) expr.Node { return expr.Node{Class: class} }
func anyClass() expr.Node       { return expr.Node{Kind: expr.Any} }
func nothing() expr.Node        { return expr.Node{Kind: expr.Empty} }

// of is an expression of parts.
func of(kind int, parts ...expr.Node) expr.Node {
	return expr.Node{Kind: kind, Kids: parts}
}

// many is an expression of many of the same part.
func many(kind, count int, part expr.Node) expr.Node {
	return of(kind, slices.Repeat([]expr.Node{part}, count)...)
}

// groupsExcept is the grouping in which some symbols have groups of their own.
func groupsExcept(own map[int]int) []int {
	out := make([]int, 37)
	for symbol, group := range own {
		out[symbol] = group
	}
	return out
}

// TestTables has tables written out.
func TestTables(t *testing.T) {
	for _, x := range []struct {
		lines string
		want  table.Table
	}{
		{"", table.Table{
			Groups: groupsExcept(nil),
			Left:   table.Part{Packed: pack.Packed{Width: 1, Usual: []int{0}, Base: []int{0}}, Tells: []uint64{0}},
			Right:  table.Part{Packed: pack.Packed{Width: 1, Usual: []int{0}, Base: []int{0}}, Tells: []uint64{0}},
		}},
		{"/", table.Table{
			Rules: 1, Break: 1,
			// Anything leads the right expression to where nothing is accepted any more.
			Groups: groupsExcept(nil),
			Left:   table.Part{Packed: pack.Packed{Width: 1, Usual: []int{0}, Base: []int{0}}, Tells: []uint64{1}},
			Right:  table.Part{Packed: pack.Packed{Width: 1, Usual: []int{1, 1}, Base: []int{0, 0}}, Tells: []uint64{1, 0}},
		}},
		{"CR ! LF", table.Table{
			Rules:  1,
			Groups: groupsExcept(map[int]int{cr: 1, lf: 2}),
			Left: table.Part{
				Packed: pack.Packed{Width: 3, Usual: []int{0, 0}, Base: []int{0, 1}, Check: []int{-1, 0, 1}, Next: []int{0, 1, 1}},
				Tells:  []uint64{0, 1},
			},
			Right: table.Part{
				Packed: pack.Packed{Width: 3, Usual: []int{1, 1, 1}, Base: []int{0, 0, 0}, Check: []int{-1, -1, 0}, Next: []int{0, 0, 2}},
				Tells:  []uint64{0, 0, 1},
			},
		}},
		{"ignore Gap CR Other\nkeep LF Other\n^ ! LF\n/", table.Table{
			Rules: 2, Break: 2, Ignore: 1<<gap | 1<<cr | 1, Keep: 1<<lf | 1,
			Groups: groupsExcept(map[int]int{lf: 1, 36: 2}),
			Left: table.Part{
				Packed: pack.Packed{Width: 3, Usual: []int{0, 0}, Base: []int{0, 1}, Check: []int{-1, -1, 0, 1}, Next: []int{0, 0, 1, 1}},
				Tells:  []uint64{2, 3},
			},
			Right: table.Part{
				Packed: pack.Packed{Width: 3, Usual: []int{1, 1, 1}, Base: []int{0, 0, 0}, Check: []int{-1, 0}, Next: []int{0, 2}},
				Tells:  []uint64{2, 0, 1},
			},
		}},
	} {
		if got := read(t, x.lines); !table.Same(got, x.want) || !table.Same(compiled(t, parsed(t, x.lines)), x.want) {
			t.Errorf("%q: %+v", x.lines, got)
		}
	}
}

// bits is classes, as bits.
func bits(classes []int) uint64 {
	var out uint64
	for class := range 64 {
		if slices.Contains(classes, class) {
			out += 1 << class
		}
	}
	return out
}

// wide is the transition table of a part of a valid table.
func wide(t *testing.T, x table.Table, p table.Part) dfa.DFA {
	t.Helper()
	rows, ok := pack.Rows(p.Packed)
	d, isNarrow := squeeze.Wide(squeeze.Narrow{Groups: x.Groups, Next: rows, Tells: p.Tells})
	if !ok || !isNarrow {
		t.Fatalf("no rows, or no narrow table: %+v", x)
	}
	return d
}

// holdPart holds a part against its expressions: it has the minimal table of their automaton.
func holdPart(t *testing.T, what string, x table.Table, p table.Part, search bool, l []expr.Node) dfa.DFA {
	t.Helper()
	n, err := nfa.New(search, l...)
	if err != api.OK {
		t.Fatalf("%s: %d", what, err)
	}
	whole, err := dfa.New(n)
	if err != api.OK {
		t.Fatalf("%s: %d", what, err)
	}
	got := wide(t, x, p)
	if !least.Alike(got, whole) || !dfa.Same(got, least.Least(got)) {
		t.Fatalf("%s: %+v, of %+v", what, got, whole)
	}
	rows, _ := pack.Rows(p.Packed)
	if again, err := pack.Pack(p.Width, rows...); err != api.OK || !pack.Same(again, p.Packed) {
		t.Fatalf("%s: not packed as chapter 12 has it: %+v, not %+v", what, p, again)
	}
	return got
}

// holdTable holds the table of a valid rule set against the chapter's terms.
func holdTable(t *testing.T, set rule.Text) table.Table {
	t.Helper()
	x, text := compiled(t, set), rule.Print(set)
	var lefts, rights []expr.Node
	var breaks []int
	for i, r := range set.Rules {
		lefts, rights = append(lefts, r.Left), append(rights, r.Right)
		if r.Break {
			breaks = append(breaks, i)
		}
	}
	if x.Rules != len(set.Rules) || x.Ignore != bits(set.Ignore) || x.Keep != bits(set.Keep) || x.Break != bits(breaks) {
		t.Fatalf("%q: Rules %d, Ignore %b, Keep %b, Break %b", text, x.Rules, x.Ignore, x.Keep, x.Break)
	}
	left := holdPart(t, text+" on the left", x, x.Left, true, lefts)
	right := holdPart(t, text+" on the right", x, x.Right, false, rights)
	if !slices.Equal(x.Groups, squeeze.Groups(left, right)) {
		t.Fatalf("%q: Groups %d", text, x.Groups)
	}
	return x
}

// randomSide is a text of a rule's side, over few classes; ahead says whether it is the right one.
func randomSide(rng *rand.Rand, depth int, ahead bool) string {
	leaves := []string{"L", "V", "Extend", "~L", "any", "^"}
	if ahead {
		leaves = leaves[:5]
	}
	if depth == 0 || rng.Intn(3) == 0 {
		return leaves[rng.Intn(len(leaves))]
	}
	part := func() string { return "(" + randomSide(rng, depth-1, ahead) + ")" }
	switch rng.Intn(6) {
	case 0:
		return part() + "?"
	case 1:
		return part() + "|" + part()
	case 2, 3:
		return part() + " " + part()
	}
	if ahead {
		return part()
	}
	return part() + []string{"*", "+"}[rng.Intn(2)]
}

// randomSet is some rule set; of its rules, some have an empty side.
func randomSet(t *testing.T, rng *rand.Rand) rule.Text {
	t.Helper()
	lines := []string{[]string{
		"", "ignore Extend", "ignore Extend V\nkeep L", "ignore L Extend Other\nkeep V Extend", "keep L",
	}[rng.Intn(5)]}
	for range rng.Intn(6) {
		left, right := randomSide(rng, 3, false), randomSide(rng, 2, true)
		switch rng.Intn(8) {
		case 0:
			left = ""
		case 1:
			right = ""
		}
		lines = append(lines, left+[]string{"!", "/"}[rng.Intn(2)]+right)
	}
	return parsed(t, lines...)
}

// TestTerms holds tables of random rule sets against the chapter's terms.
func TestTerms(t *testing.T) {
	rng := rand.New(rand.NewSource(13))
	for range 500 {
		holdTable(t, randomSet(t, rng))
	}
}

// forty is as many rules as may be, of which each has a pair of classes of its own.
func forty() rule.Text {
	x := rule.Text{Ignore: []int{extend}}
	for k := range api.MaxRules {
		x.Rules = append(x.Rules, rule.Rule{Left: class(k % 7), Right: class(6 + k/7), Break: k%3 == 0})
	}
	return x
}

// TestMaxRules has as many rules as may be: each has a bit of its own.
func TestMaxRules(t *testing.T) {
	set := forty()
	x := holdTable(t, set)
	if x.Rules != 40 || x.Break != 0x9249249249 {
		t.Errorf("%d, %x", x.Rules, x.Break)
	}
	for k, r := range set.Rules {
		if got := x.Which([]int{r.Left.Class, r.Right.Class}, 1); got != k {
			t.Errorf("%d, not %d", got, k)
		}
		if got := x.Breaks([]int{r.Left.Class, r.Right.Class}); !slices.Equal(got, []bool{true, r.Break, true}) {
			t.Errorf("%d: %t", k, got)
		}
	}
	all := rule.Text{Rules: slices.Repeat([]rule.Rule{{Left: nothing(), Right: nothing(), Break: true}}, api.MaxRules)}
	if x := holdTable(t, all); x.Break != 1<<40-1 || !slices.Equal(x.Left.Tells, []uint64{1<<40 - 1}) {
		t.Errorf("%+v", x)
	}
	set.Rules = append(set.Rules, set.Rules[0])
	fails(t, "one rule more", set, api.ErrArg)
}

// fails holds the error of a rule set against what is asked.
func fails(t *testing.T, what string, set rule.Text, want api.Errno) {
	t.Helper()
	if x, err := table.Compile(set); err != want || !isEmpty(x) {
		t.Errorf("%s: %+v, %d, not %d", what, x, err, want)
	}
}

// wrongSets is rule sets that are not valid.
func wrongSets() map[string]rule.Text {
	out := map[string]rule.Text{}
	add := func(what string, change func(x *rule.Text)) {
		x := rule.Text{Ignore: []int{extend}, Keep: []int{lf}, Rules: []rule.Rule{{Left: nothing(), Right: nothing()}, {Left: class(1), Right: class(2)}}}
		change(&x)
		out[what] = x
	}
	add("ignored classes that fall", func(x *rule.Text) { x.Ignore = []int{extend, other} })
	add("an ignored class twice", func(x *rule.Text) { x.Ignore = []int{extend, extend} })
	add("an ignored number", func(x *rule.Text) { x.Ignore = []int{extend, 36} })
	add("an ignored number below 0", func(x *rule.Text) { x.Ignore = []int{-1, extend} })
	add("the least number", func(x *rule.Text) { x.Ignore = []int{math.MinInt} })
	add("keeping classes that fall", func(x *rule.Text) { x.Keep = []int{lf, cr} })
	add("a keeping class twice", func(x *rule.Text) { x.Keep = []int{lf, lf} })
	add("a keeping number", func(x *rule.Text) { x.Keep = []int{99} })
	add("the greatest number", func(x *rule.Text) { x.Keep = []int{math.MaxInt} })
	add("a left side that is none", func(x *rule.Text) { x.Rules[0].Left = of(expr.Seq) })
	add("a left class that is none", func(x *rule.Text) { x.Rules[1].Left = class(36) })
	add("a left side that holds nothing", func(x *rule.Text) { x.Rules[1].Left = of(expr.Star, nothing()) })
	add("a left side of too many nodes", func(x *rule.Text) { x.Rules[1].Left = many(expr.Alt, expr.MaxNodes, class(1)) })
	add("a right side that is none", func(x *rule.Text) { x.Rules[0].Right = expr.Node{Kind: 10} })
	add("a right side with a start", func(x *rule.Text) { x.Rules[0].Right = expr.Node{Kind: expr.Start} })
	add("a right side with a star", func(x *rule.Text) { x.Rules[0].Right = of(expr.Star, class(1)) })
	add("a right side with a plus", func(x *rule.Text) { x.Rules[1].Right = of(expr.Plus, class(1)) })
	add("a right side of five", func(x *rule.Text) { x.Rules[1].Right = many(expr.Seq, 5, class(1)) })
	add("more rules than may be", func(x *rule.Text) { x.Rules = slices.Repeat(x.Rules[:1], 41) })
	add("far more rules", func(x *rule.Text) { x.Rules = slices.Repeat(x.Rules, 1000) })
	add("not valid, and too many positions", func(x *rule.Text) {
		x.Rules[0].Left, x.Rules[1].Right = many(expr.Seq, 1500, class(1)), class(36)
	})
	return out
}

func TestWrongSets(t *testing.T) {
	for what, set := range wrongSets() {
		if rule.Right(set) {
			t.Fatal(what)
		}
		fails(t, what, set, api.ErrArg)
	}
}

// one is a rule set of one rule.
func one(left, right expr.Node) rule.Text {
	return rule.Text{Rules: []rule.Rule{{Left: left, Right: right}}}
}

// TestMaxPositions has as many positions as may be in an automaton, and one more.
func TestMaxPositions(t *testing.T) {
	const most = api.MaxStates - 1 // without the beginning
	for _, part := range []expr.Node{class(classL), {Kind: expr.Not, Class: classL}, anyClass()} {
		holdTable(t, one(many(expr.Alt, most, part), nothing()))
		holdTable(t, one(nothing(), many(expr.Alt, most, part)))
		holdTable(t, one(many(expr.Alt, most, part), many(expr.Alt, most, part)))
		fails(t, "one more on the left", one(many(expr.Alt, most+1, part), nothing()), api.ErrStates)
		fails(t, "one more on the right", one(nothing(), many(expr.Alt, most+1, part)), api.ErrStates)
		fails(t, "many more", one(many(expr.Alt, expr.MaxNodes-1, part), nothing()), api.ErrStates)
	}
	var spread rule.Text
	for range 39 {
		spread.Rules = append(spread.Rules, rule.Rule{Left: many(expr.Alt, 25, class(cr)), Right: many(expr.Alt, 25, class(lf))})
	}
	last := rule.Rule{Left: many(expr.Alt, most-39*25, class(lf)), Right: many(expr.Alt, most-39*25, class(cr))}
	spread.Rules = append(spread.Rules, last)
	holdTable(t, spread)
	more := rule.Text{Rules: slices.Clone(spread.Rules)}
	more.Rules[39].Left = many(expr.Alt, api.MaxStates-39*25, class(lf))
	fails(t, "one more in forty, on the left", more, api.ErrStates)
	more.Rules[39] = last
	more.Rules[0].Right = many(expr.Alt, 26, class(cr))
	fails(t, "one more in forty, on the right", more, api.ErrStates)
}

// TestMaxLeft has as many states as may be on the left, and one more.
func TestMaxLeft(t *testing.T) {
	begin := expr.Node{Kind: expr.Start}
	chain := func(length int) expr.Node { return many(expr.Seq, length, anyClass()) }
	rules := func(lefts ...expr.Node) rule.Text {
		var x rule.Text
		for i, left := range lefts {
			x.Rules = append(x.Rules, rule.Rule{Left: left, Right: nothing(), Break: i == 1})
		}
		return x
	}
	for _, x := range []struct {
		what   string
		set    rule.Text
		states int // of the minimal table; 0 if there are too many sets
	}{
		{"a set for each of 998 leaves, and the beginning", rules(chain(998)), 999},
		{"a leaf more", rules(chain(999)), 1000},
		{"two sets for each of 499 leaves", rules(chain(499), class(classL)), 999},
		{"a set more", rules(chain(499), class(classL), begin), 1000},
		{"two sets more", rules(chain(500), class(classL)), 0},
		{"subsets", rules(of(expr.Seq, append([]expr.Node{class(classL)}, slices.Repeat([]expr.Node{anyClass()}, 8)...)...)), 512},
		{"more subsets", rules(of(expr.Seq, append([]expr.Node{class(classL)}, slices.Repeat([]expr.Node{anyClass()}, 9)...)...)), 0},
	} {
		if x.states == 0 {
			fails(t, x.what, x.set, api.ErrStates)
			continue
		}
		if got := compiled(t, x.set); len(got.Left.Usual) != x.states || len(got.Left.Tells) != x.states {
			t.Errorf("%s: %d rows, not %d", x.what, len(got.Left.Usual), x.states)
		}
	}
}

// tree is a right expression of so many leaves: by each of the pairs of classes, one comes to a place of its own.
func tree(leaves int) expr.Node {
	var branches []expr.Node
	for first := 0; leaves > 0; first++ {
		ends := min(leaves-1, 34)
		var parts []expr.Node
		for second := range ends {
			parts = append(parts, class(second))
		}
		branches = append(branches, of(expr.Seq, class(first), of(expr.Alt, parts...)))
		leaves -= ends + 1
	}
	return of(expr.Alt, branches...)
}

// TestMaxRight has as many sets as may be on the right, and one more: one for each leaf, the beginning, and none.
func TestMaxRight(t *testing.T) {
	x := compiled(t, one(nothing(), tree(998)))
	if len(x.Right.Tells) > 40 {
		t.Error("not minimal", len(x.Right.Tells))
	}
	for _, second := range []int{0, 16, 17, 33, 34, 35} {
		for _, first := range []int{0, 5, 27, 28, 29} {
			// 998 leaves are 28 branches of 35, and one of 18.
			isThere := first < 28 && second < 34 || first == 28 && second < 17
			if got := x.Which([]int{lf, first, second}, 1) == 0; got != isThere {
				t.Error(first, second, got)
			}
		}
	}
	fails(t, "one leaf more, as many positions as may be", one(nothing(), tree(999)), api.ErrStates)
	fails(t, "both sides", one(many(expr.Seq, 500, anyClass()), tree(999)), api.ErrStates)
}

// TestFull runs a table of as many rows as may be.
func TestFull(t *testing.T) {
	ten := strings.TrimSpace(strings.Repeat(" any", 10))
	hundred := strings.TrimSpace(strings.Repeat(" ten", 10))
	left := strings.Repeat("hundred ", 9) + strings.Repeat("ten ", 9) + strings.Repeat("any ", 9)
	x := read(t, "ignore Extend", "let ten = "+ten, "let hundred = "+hundred, left+"! L")
	if len(x.Left.Tells) != api.MaxStates {
		t.Fatal(len(x.Left.Tells))
	}
	ids := slices.Repeat([]int{classL, extend}, 1100)
	got := x.Breaks(ids)
	for i := range ids {
		isBreak := i%2 == 0 && i < 2*999
		if got[i] != isBreak {
			t.Fatal(i, got[i])
		}
	}
	if x.Which(ids, 2*998) != -1 || x.Which(ids, 2*999) != 0 || x.Which(ids, 2*999+1) != -1 {
		t.Error("Which")
	}
	if r := x.Run(); !slices.Equal(together(r, ids), inner(got)) {
		t.Error("a runner")
	}
}

func TestRead(t *testing.T) {
	nine := strings.Repeat(" any", 9)
	for _, x := range []struct {
		text string
		at   int
		err  api.Errno
	}{
		{"L ! V*", 3, api.ErrWide},
		{"CR ! LF\nL !^", 11, api.ErrForm},
		{"CR ! LF\nL V", 11, api.ErrForm},
		{"  L ! Lx", 6, api.ErrName},
		{"ignore Extend\n ignore Extend", 15, api.ErrTwice},
		{strings.Repeat("!\n", 41), 80, api.ErrLong},
		{strings.Repeat("(", 21) + "L", 22, api.ErrForm},
		{strings.Repeat("(", 21) + "L!", 20, api.ErrDeep},
		{strings.Repeat(" ", api.MaxRuled+1), 0, api.ErrLong},
		{"\xff", 1, api.ErrForm},
		{"L" + nine + " !", 0, api.ErrStates},
		{"# not at its offset\n\n!\nL" + nine + " !", 0, api.ErrStates},
		{"let a = any any any any any any any any any any\nlet b = a a a a a a a a a a\n!" + "\nb b b b b b b b b b ! L", 0, api.ErrStates},
	} {
		if got, at, err := table.Read(x.text); at != x.at || err != x.err || !isEmpty(got) {
			t.Errorf("%q: %+v, %d, %d, not %d, %d", x.text, got, at, err, x.at, x.err)
		}
	}
	for _, text := range []string{"", "\n\n", "#", strings.Repeat(" ", api.MaxRuled), strings.Repeat("!\n", 40), "ignore LF\nkeep CR\nL ! V # a rule", "let a = L|V\na !"} {
		set, _, err := rule.Parse(text)
		got, at, readErr := table.Read(text)
		if err != api.OK || readErr != api.OK || at != 0 || !table.Same(got, compiled(t, set)) {
			t.Errorf("%q: %+v, %d, %d", text, got, at, readErr)
		}
	}
}

// TestEveryClass has rules of each class: none is taken for another one.
func TestEveryClass(t *testing.T) {
	for k := range api.Classes {
		name := prop.Name(k)
		x := read(t, "ignore "+name, "keep "+name, name+" ! "+name)
		if x.Ignore != 1<<k || x.Keep != 1<<k || squeeze.Many(x.Groups) != 2 {
			t.Error(name, x.Ignore, x.Keep, x.Groups)
		}
		for id := range api.Classes {
			want := -1
			if id == k {
				want = 0
			}
			if got := x.Which([]int{k, id}, 1); got != want {
				t.Error(name, id, got)
			}
		}
	}
}

// TestCompileKeeps holds a rule set against what it was, and what Compile answered against one another.
func TestCompileKeeps(t *testing.T) {
	set := parsed(t, "ignore Extend Gap", "keep LF", "^ L+ (V|T)? ! V L?", "L V / ~L", "!")
	set.Ignore = append(set.Ignore, 77)[:2]
	set.Keep = append(set.Keep, 88)[:1]
	set.Rules = append(set.Rules, rule.Rule{Break: true})[:3]
	before := rule.Print(set)
	want := copied(compiled(t, set))
	for what, overwrite := range spoilers() {
		first, second := compiled(t, set), compiled(t, set)
		overwrite(first)
		if !table.Same(second, want) {
			t.Error(what, "of another answer")
		}
		alone := copied(want)
		overwrite(alone)
		if !table.Same(first, alone) {
			t.Error(what, "shares with another list")
		}
	}
	isKept := set.Ignore[:3][2] == 77 && set.Keep[:2][1] == 88 && set.Rules[:4][3].Break
	if rule.Print(set) != before || !isKept {
		t.Error("the rule set was changed", rule.Print(set))
	}
}
