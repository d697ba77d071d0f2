package decide_test

import (
	"math"
	"math/rand"
	"slices"
	"strings"
	"testing"

	"virgule/api"
	"virgule/decide"
	"virgule/expr"
	"virgule/rule"
)

// Classes of layer 4 that the tests use.
const (
	other    = 0
	cr       = 1
	lf       = 2
	extend   = 5
	regional = 8
	classL   = 11
	classV   = 12
	classT   = 13
)

// parsed is what lines of a rule text mean.
func parsed(t *testing.T, lines ...string) rule.Text {
	t.Helper()
	x, at, err := rule.Parse(strings.Join(lines, "\n"))
	if err != api.OK {
		t.Fatalf("%q: %d, %d", lines, at, err)
	}
	return x
}

// class is what a number of a list counts as.
func class(id int) int {
	if 0 <= id && id <= 35 {
		return id
	}
	return 0
}

// hidden is the chapter's definition, of a valid rule set.
func hidden(t rule.Text, ids []int, i int) bool {
	if i == 0 || !slices.Contains(t.Ignore, class(ids[i])) {
		return false
	}
	return hidden(t, ids, i-1) || !slices.Contains(t.Keep, class(ids[i-1]))
}

// applies is the chapter's definition, by all suffixes and all prefixes.
func applies(r rule.Rule, left, right []int) bool {
	behind, ahead := false, false
	for i := range len(left) + 1 {
		behind = behind || expr.Matches(r.Left, left[i:]...)
	}
	for i := range len(right) + 1 {
		ahead = ahead || expr.Matches(r.Right, right[:i]...)
	}
	return behind && ahead
}

// which is the chapter's definition, of a valid rule set.
func which(t rule.Text, ids []int, i int) int {
	if i <= 0 || i >= len(ids) || hidden(t, ids, i) {
		return -1
	}
	left, right := []int{36}, []int(nil)
	for k, id := range ids {
		switch {
		case hidden(t, ids, k):
		case k < i:
			left = append(left, class(id))
		default:
			right = append(right, class(id))
		}
	}
	for k, r := range t.Rules {
		if applies(r, left, right) {
			return k
		}
	}
	return -1
}

// breaks is the chapter's definition, of a valid rule set.
func breaks(t rule.Text, ids []int) []bool {
	out := []bool{true}
	for i := 1; i < len(ids); i++ {
		k := which(t, ids, i)
		out = append(out, !hidden(t, ids, i) && (k < 0 || t.Rules[k].Break))
	}
	if len(ids) > 0 {
		out = append(out, true)
	}
	return out
}

// hold holds all answers for a list against the definitions of a rule set; given is the same rule set, or one that counts as it.
func hold(t *testing.T, given, x rule.Text, ids []int) {
	t.Helper()
	hides := decide.Hidden(given, ids)
	if len(hides) != len(ids) {
		t.Fatalf("Hidden(%q, %d): %t", rule.Print(given), ids, hides)
	}
	for i := -2; i < len(ids)+3; i++ {
		if i >= 0 && i < len(ids) && hides[i] != hidden(x, ids, i) {
			t.Fatalf("Hidden(%q, %d): %t", rule.Print(given), ids, hides)
		}
		if got, want := decide.Which(given, ids, i), which(x, ids, i); got != want {
			t.Fatalf("Which(%q, %d, %d): %d, not %d", rule.Print(given), ids, i, got, want)
		}
	}
	if got, want := decide.Breaks(given, ids), breaks(x, ids); !slices.Equal(got, want) {
		t.Fatalf("Breaks(%q, %d): %t, not %t", rule.Print(given), ids, got, want)
	}
	holdVisible(t, x, ids, hides)
}

// holdVisible holds the breaks of a list against those of the list without its hidden positions.
func holdVisible(t *testing.T, x rule.Text, ids []int, hides []bool) {
	t.Helper()
	all := decide.Breaks(x, ids)
	var visible []int
	var want []bool
	for i, id := range ids {
		if !hides[i] {
			visible = append(visible, id)
			want = append(want, all[i])
		} else if all[i] {
			t.Fatalf("Breaks(%q, %d): a break ahead of the hidden position %d", rule.Print(x), ids, i)
		}
	}
	want = append(want, all[len(ids)])
	if got := decide.Breaks(x, visible); !slices.Equal(got, want) {
		t.Fatalf("Breaks(%q, %d): %t without hidden positions, not %t", rule.Print(x), ids, got, want)
	}
}

// lists is all lists of some numbers, up to a length.
func lists(length int, numbers ...int) [][]int {
	out := [][]int{nil}
	for from := 0; length > 0; length-- {
		to := len(out)
		for _, l := range out[from:to] {
			for _, n := range numbers {
				out = append(out, append(slices.Clone(l), n))
			}
		}
		from = to
	}
	return out
}

// TestSmall holds all short lists against the definitions, for rule sets of all forms.
func TestSmall(t *testing.T) {
	all := lists(5, other, lf, extend, classL)
	for _, lines := range [][]string{
		{""},
		{"!"},
		{"/"},
		{"/", "!"},
		{"L ! L"},
		{"L !", "! L", "/ LF"},
		{"! L L", "L !"},
		{"^ ! L", "^ any ! L", "^ L any ! any L"},
		{"^* ! L"},
		{"^ any* ! L"},
		{"any any ! L"},
		{"~L ! ~L"},
		{"L* ! LF", "L+ LF ! Other"},
		{"any* ! L L? L?"},
		{"^ (L L)* L ! L", "~L (L L)* L ! L"},
		{"(L LF)+ ! L|LF", "L !"},
		{"L (LF|Other)* ! L"},
		{"! L? L? L? L?"},
		{"! L L L L", "L L L L !"},
		{"ignore Extend", "L ! L"},
		{"ignore Extend", "! L"},
		{"ignore Extend", "Extend !", "! Extend"},
		{"ignore Extend", "keep LF", "! Extend", "LF Extend ! L"},
		{"ignore Extend LF", "keep LF", "L ! L", "LF ! L"},
		{"ignore Extend", "keep Extend", "Extend ! Extend"},
		{"ignore Extend Other", "keep Other L", "! any", "/"},
		{"ignore Other Extend LF L", "keep L", "L ! any any"},
		{"keep LF Extend", "LF ! Extend"},
		{"ignore Extend", "^ L ! L", "^ Extend ! L"},
	} {
		x := parsed(t, lines...)
		for _, ids := range all {
			hold(t, x, x, ids)
		}
	}
}

// randomSide is a text of a rule's side, over few classes; ahead says whether it is the right one.
func randomSide(rng *rand.Rand, depth int, ahead bool) string {
	leaves := []string{"L", "V", "Extend", "~L", "any", "^"}
	if ahead {
		leaves = leaves[:5]
	}
	if depth == 0 || rng.Intn(3) == 0 {
		return leaves[rng.Intn(len(leaves))]
	}
	part := func() string { return "(" + randomSide(rng, depth-1, ahead) + ")" }
	switch rng.Intn(6) {
	case 0:
		return part() + "?"
	case 1:
		return part() + "|" + part()
	case 2, 3:
		return part() + " " + part()
	}
	if ahead {
		return part()
	}
	return part() + []string{"*", "+"}[rng.Intn(2)]
}

func TestRandom(t *testing.T) {
	rng := rand.New(rand.NewSource(4))
	heads := []string{"", "ignore Extend", "ignore Extend V\nkeep L", "ignore L Extend Other\nkeep V Extend"}
	for range 800 {
		lines := []string{heads[rng.Intn(len(heads))]}
		for range 1 + rng.Intn(4) {
			lines = append(lines, randomSide(rng, 3, false)+[]string{"!", "/"}[rng.Intn(2)]+randomSide(rng, 2, true))
		}
		x := parsed(t, lines...)
		for range 15 {
			ids := make([]int, rng.Intn(9))
			for i := range ids {
				ids[i] = []int{classL, classV, extend, extend, other, rng.Intn(40) - 2}[rng.Intn(6)]
			}
			hold(t, x, x, ids)
		}
	}
}

// texts writes breaks, each list as one text.
func texts(l []bool) string {
	var out strings.Builder
	for _, b := range l {
		out.WriteString(map[bool]string{true: "1", false: "0"}[b])
	}
	return out.String()
}

func TestBreaks(t *testing.T) {
	for _, x := range []struct {
		lines string
		ids   []int
		want  string
	}{
		{"CR ! LF", []int{lf, cr, lf}, "1101"},
		{"CR ! LF", nil, "1"},
		{"CR ! LF", []int{}, "1"},
		{"!", []int{lf}, "11"},
		{"!", []int{lf, lf, lf}, "1001"},
		{"", []int{lf, lf, lf}, "1111"},
		{"/\n!", []int{lf, lf}, "111"},
		{"L ! V\nL / V", []int{classL, classV}, "101"},
		{"L / V\nL ! V", []int{classL, classV}, "111"},
		{"L ! V V", []int{classL, classV, classL, classV, classV}, "111011"},
		{"^ any ! any", []int{classL, classV, classT}, "1011"},
		{"^ any ! any\nignore L", []int{classL, classL, classV, classT}, "10011"},
		{"^ ! any", []int{classL, classV}, "111"},
		{"^* ! L", []int{classL, classL, classV}, "1011"},
		{"any any ! any", []int{classL, classL, classL, classL}, "11001"},
		{"ignore Extend", []int{extend, extend, classL, extend}, "10101"},
		{"ignore Extend\nL ! V", []int{classL, extend, extend, classV}, "10001"},
		{"ignore Extend\nL ! Extend\nL ! V", []int{extend, classL, extend, classV}, "11001"},
		{"ignore Extend\nkeep LF", []int{lf, extend, extend, classL}, "11011"},
		{"ignore Extend\nkeep LF Extend", []int{lf, extend, extend, classL}, "11111"},
		{"ignore Extend LF\nkeep LF", []int{classL, lf, extend, classL}, "10011"},
		{"ignore Other", []int{classL, 36, -1, 99, math.MinInt, math.MaxInt, 0}, "10000001"},
		{"Other ! Other", []int{36, -1, 35, 36, math.MaxInt, math.MinInt}, "1011001"},
		{"^ Other ! L", []int{36, classL, 36, classL}, "10111"},
		{"^ (Regional Regional)* Regional ! Regional", slices.Repeat([]int{regional}, 7), "10101011"},
		{"~Regional (Regional Regional)* Regional ! Regional", append([]int{classL}, slices.Repeat([]int{regional}, 5)...), "1101011"},
	} {
		if got := texts(decide.Breaks(parsed(t, x.lines), x.ids)); got != x.want {
			t.Errorf("%q, %d: %s, not %s", x.lines, x.ids, got, x.want)
		}
	}
}

func TestHidden(t *testing.T) {
	for _, x := range []struct {
		lines string
		ids   []int
		want  string
	}{
		{"ignore Extend", nil, ""},
		{"ignore Extend", []int{extend}, "0"},
		{"ignore Extend", []int{extend, extend, classL, extend, extend}, "01011"},
		{"ignore Extend\nkeep LF", []int{lf, extend, extend, extend}, "0011"},
		{"ignore Extend\nkeep Extend", []int{classL, extend, extend, lf}, "0110"},
		{"ignore Extend\nkeep Extend", []int{extend, extend, extend}, "000"},
		{"ignore Extend LF\nkeep LF", []int{lf, lf, classL, lf, extend}, "00011"},
		{"ignore Other\nkeep Gap", []int{35, 36, -1, 0, classL, -1, 36}, "0011011"},
		{"ignore Extend\nkeep Other", []int{36, extend, extend}, "001"},
		{"keep Extend", []int{extend, extend}, "00"},
		{"", []int{extend, extend}, "00"},
	} {
		if got := texts(decide.Hidden(parsed(t, x.lines), x.ids)); got != x.want {
			t.Errorf("%q, %d: %s, not %s", x.lines, x.ids, got, x.want)
		}
	}
}

func TestWhich(t *testing.T) {
	x := parsed(t, "ignore Extend", "L ! V", "V /", "L ! any", "^ any V ! L")
	ids := []int{classL, extend, classV, classL, classL, extend, classT, classV}
	for i, want := range map[int]int{
		0: -1, 1: -1, 2: 0, 3: 1, 4: 2, 5: -1, 6: 2, 7: -1,
		8: -1, 9: -1, -1: -1, math.MinInt: -1, math.MaxInt: -1, 1 << 40: -1,
	} {
		if got := decide.Which(x, ids, i); got != want {
			t.Errorf("%d: %d, not %d", i, got, want)
		}
	}
	for _, i := range []int{-1, 0, 1} {
		if decide.Which(x, nil, i) != -1 || decide.Which(parsed(t, "!"), []int{classL}, i) != -1 {
			t.Error("a list of none, or of one", i)
		}
	}
	if decide.Which(rule.Text{}, ids, 3) != -1 || decide.Which(parsed(t, "!"), ids, 7) != 0 {
		t.Error("no rules, and one that always applies")
	}
}

// TestWrong holds rule sets that are not valid against one without rules and lists.
func TestWrong(t *testing.T) {
	right := parsed(t, "ignore Extend", "keep LF", "!")
	spoil := map[string]func(x *rule.Text){
		"ignored classes that fall":   func(x *rule.Text) { x.Ignore = []int{extend, other} },
		"an ignored class twice":      func(x *rule.Text) { x.Ignore = []int{extend, extend} },
		"an ignored number":           func(x *rule.Text) { x.Ignore = []int{extend, 36} },
		"an ignored number below 0":   func(x *rule.Text) { x.Ignore = []int{-1, extend} },
		"keeping classes that fall":   func(x *rule.Text) { x.Keep = []int{lf, cr} },
		"a keeping number":            func(x *rule.Text) { x.Keep = []int{99} },
		"a left side that is none":    func(x *rule.Text) { x.Rules[0].Left = expr.Node{Kind: expr.Seq} },
		"a right side that is none":   func(x *rule.Text) { x.Rules[0].Right = expr.Node{Kind: expr.Class, Class: 36} },
		"a right side with a start":   func(x *rule.Text) { x.Rules[0].Right = expr.Node{Kind: expr.Start} },
		"a right side without bound":  func(x *rule.Text) { x.Rules[0].Right = repeated(expr.Star, 1) },
		"a right side of five":        func(x *rule.Text) { x.Rules[0].Right = repeated(expr.Seq, 5) },
		"more rules than may be":      func(x *rule.Text) { x.Rules = slices.Repeat(x.Rules, 41) },
		"a rule behind that is wrong": func(x *rule.Text) { x.Rules = append(x.Rules, rule.Rule{Left: expr.Node{Kind: 10}}) },
	}
	for name, change := range spoil {
		x := rule.Text{Ignore: right.Ignore, Keep: right.Keep, Rules: slices.Clone(right.Rules)}
		change(&x)
		if rule.Right(x) {
			t.Fatal(name)
		}
		for _, ids := range lists(4, extend, lf, classL) {
			hold(t, x, rule.Text{}, ids)
		}
	}
	forty := rule.Text{Ignore: []int{extend}, Rules: slices.Repeat(right.Rules, api.MaxRules)}
	hold(t, forty, forty, []int{extend, extend, classL})
}

// repeated is a node of a class many times.
func repeated(kind, times int) expr.Node {
	return expr.Node{Kind: kind, Kids: slices.Repeat([]expr.Node{{Class: classL}}, times)}
}

// TestLong asks for lists that are long.
func TestLong(t *testing.T) {
	x := parsed(t, "ignore Extend", "CR ! LF", "L L ! V V", "! Extend", "/")
	ids := slices.Repeat([]int{cr, lf, extend, classL, classL, extend, classV, classV, other}, api.MaxLen/9)
	if got := texts(decide.Breaks(x, ids)); got != strings.Repeat("100110011", api.MaxLen/9)+"1" {
		t.Error("many classes", got[:20])
	}
	flags := parsed(t, "^ (Regional Regional)* Regional ! Regional", "~Regional (Regional Regional)* Regional ! Regional")
	if got := texts(decide.Breaks(flags, slices.Repeat([]int{regional}, 500))); got != strings.Repeat("10", 250)+"1" {
		t.Error("many flags", got)
	}
}

// TestKeeps holds arguments, and what lies behind their ends, against what they were, and answers against one another.
func TestKeeps(t *testing.T) {
	x := parsed(t, "ignore Extend", "keep LF", "L ! V")
	before := rule.Print(x)
	ids := []int{classL, 99, extend, -7, classV}
	first := decide.Hidden(x, ids[:3])
	again := decide.Hidden(x, ids[:3])
	first[0] = true
	_ = append(decide.Breaks(x, ids[:3]), true)
	decide.Which(x, ids[:3], 1)
	if again[0] || rule.Print(x) != before || !slices.Equal(ids, []int{classL, 99, extend, -7, classV}) {
		t.Error("an argument, or an answer, was changed")
	}
}
