package table_test

import (
	"math"
	"math/rand"
	"slices"
	"strings"
	"testing"

	"virgule/api"
	"virgule/pack"
	"virgule/table"
)

// TestSmall holds all short lists against chapter 7, and against this one, for rule sets of all forms.
func TestSmall(t *testing.T) {
	all := lists(5, other, lf, extend, classL)
	for _, lines := range [][]string{
		{""},
		{"!"},
		{"/"},
		{"/", "!"},
		{"L ! L"},
		{"L !", "! L", "/ LF"},
		{"! L L", "L !"},
		{"! L?", "L / LF?"},
		{"L ! (L LF)?", "! any"},
		{"^ ! L", "^ any ! L", "^ L any ! any L"},
		{"^* ! L"},
		{"^ any* ! L"},
		{"any any ! L"},
		{"~L ! ~L"},
		{"L* ! LF", "L+ LF ! Other"},
		{"any* ! L L? L?"},
		{"^ (L L)* L ! L", "~L (L L)* L ! L"},
		{"(L LF)+ ! L|LF", "L !"},
		{"L (LF|Other)* ! L"},
		{"! L? L? L? L?"},
		{"! L L L L", "L L L L !"},
		{"ignore Extend", "L ! L"},
		{"ignore Extend", "! L"},
		{"ignore Extend", "Extend !", "! Extend"},
		{"ignore Extend", "keep LF", "! Extend", "LF Extend ! L"},
		{"ignore Extend LF", "keep LF", "L ! L", "LF ! L"},
		{"ignore Extend", "keep Extend", "Extend ! Extend"},
		{"ignore Extend Other", "keep Other L", "! any", "/"},
		{"ignore Other Extend LF L", "keep L", "L ! any any"},
		{"keep LF Extend", "LF ! Extend"},
		{"ignore Extend", "^ L ! L", "^ Extend ! L"},
	} {
		set := parsed(t, lines...)
		x := compiled(t, set)
		for _, ids := range all {
			holdDecide(t, x, set, ids)
			hold(t, strings.Join(lines, "; "), x, ids)
		}
	}
}

// TestRandomRules holds random rule sets against chapter 7, for random lists.
func TestRandomRules(t *testing.T) {
	rng := rand.New(rand.NewSource(131))
	for range 800 {
		set := randomSet(t, rng)
		x := compiled(t, set)
		for range 12 {
			ids := randomList(rng, 12)
			holdDecide(t, x, set, ids)
		}
		hold(t, "random", x, randomList(rng, 14))
	}
	set := forty()
	x := compiled(t, set)
	for range 300 {
		ids := make([]int, rng.Intn(20))
		for i := range ids {
			ids[i] = rng.Intn(13)
		}
		holdDecide(t, x, set, ids)
	}
}

// randomPart is some valid part, of rows that lead anywhere.
func randomPart(rng *rand.Rand, width, rules int) table.Part {
	count := 1 + rng.Intn(7)
	var l [][]int
	var tells []uint64
	for range count {
		row := make([]int, width)
		for column := range row {
			row[column] = rng.Intn(count)
		}
		l = append(l, row)
		tells = append(tells, rng.Uint64()&rng.Uint64()&(1<<rules-1))
	}
	p, _ := pack.Pack(width, l...)
	return table.Part{Packed: p, Tells: tells}
}

// randomTable is some valid table, such as no rule set has.
func randomTable(rng *rand.Rand) table.Table {
	x := table.Table{Rules: []int{0, 1, 2, 3, 3, 5, 40}[rng.Intn(7)]}
	x.Break = rng.Uint64() & (1<<x.Rules - 1)
	x.Ignore = uint64(rng.Intn(4))<<extend | rng.Uint64()&rng.Uint64()&rng.Uint64()&(1<<36-1)
	x.Keep = rng.Uint64() & rng.Uint64() & (1<<36 - 1)
	most := []int{1, 2, 4, 8, 37}[rng.Intn(5)]
	width := 0
	for range 37 {
		group := rng.Intn(min(width+1, most))
		width = max(width, group+1)
		x.Groups = append(x.Groups, group)
	}
	x.Left, x.Right = randomPart(rng, width, x.Rules), randomPart(rng, width, x.Rules)
	return x
}

// TestRandomTables holds tables that come of no rule set, whose right parts would look further than may be.
func TestRandomTables(t *testing.T) {
	rng := rand.New(rand.NewSource(132))
	for range 600 {
		x := randomTable(rng)
		if !table.Right(x) {
			t.Fatalf("%+v", x)
		}
		before := copied(x)
		for range 4 {
			hold(t, "random", x, randomList(rng, 16))
		}
		if !table.Same(x, before) {
			t.Fatal("changed")
		}
	}
}

// TestLook has a right part that accepts behind five symbols, and behind four: only these are looked at.
func TestLook(t *testing.T) {
	p, _ := pack.Pack(1, []int{1}, []int{2}, []int{3}, []int{4}, []int{5}, []int{5})
	left := table.Part{Packed: pack.Packed{Width: 1, Usual: []int{0}, Base: []int{0}}, Tells: []uint64{3}}
	x := table.Table{Rules: 2, Groups: make([]int, 37), Left: left, Right: table.Part{Packed: p, Tells: []uint64{0, 0, 0, 0, 2, 1}}}
	ids := slices.Repeat([]int{classL}, 9)
	for i := 1; i < 9; i++ {
		want := -1
		if i <= 5 {
			want = 1
		}
		if got := x.Which(ids, i); got != want {
			t.Error(i, got)
		}
	}
	hold(t, "five", x, ids)
	// What was accepted on the way stays accepted, also where no symbol was read.
	x.Right.Tells = []uint64{1, 2, 0, 0, 0, 0}
	if x.Which(ids, 1) != 0 || x.Which(ids, 8) != 0 {
		t.Error("row 0")
	}
	hold(t, "row 0", x, ids)
}

func TestBreaks(t *testing.T) {
	for _, x := range []struct {
		lines string
		ids   []int
		want  string
	}{
		{"CR ! LF", []int{lf, cr, lf}, "1101"},
		{"CR ! LF", nil, "1"},
		{"CR ! LF", []int{}, "1"},
		{"!", []int{lf}, "11"},
		{"!", []int{lf, lf, lf}, "1001"},
		{"", []int{lf, lf, lf}, "1111"},
		{"/\n!", []int{lf, lf}, "111"},
		{"L ! V\nL / V", []int{classL, classV}, "101"},
		{"L / V\nL ! V", []int{classL, classV}, "111"},
		{"L ! V V", []int{classL, classV, classL, classV, classV}, "111011"},
		{"! L L L L", []int{classL, classL, classL, classL, classL, classL}, "1001111"},
		{"! V?", []int{classL, classL}, "101"},
		{"L ! V?\n/ V", []int{classL, classT, classV}, "1011"},
		{"^ any ! any", []int{classL, classV, classT}, "1011"},
		{"^ any ! any\nignore L", []int{classL, classL, classV, classT}, "10011"},
		{"^ ! any", []int{classL, classV}, "111"},
		{"ignore Extend", []int{extend}, "11"},
		{"ignore Extend", []int{extend, extend, extend}, "1001"},
		{"ignore Extend", []int{extend, extend, classL, extend}, "10101"},
		{"ignore Extend\nL ! V", []int{classL, extend, extend, classV}, "10001"},
		{"ignore Extend\nL ! V V V V", []int{classL, extend, classV, extend, extend, classV, classV, extend, classV, extend}, "10000110101"},
		{"ignore Extend\nL ! Extend\nL ! V", []int{extend, classL, extend, classV}, "11001"},
		{"ignore Extend\nkeep LF", []int{lf, extend, extend, classL}, "11011"},
		{"ignore Extend\nkeep LF Extend", []int{lf, extend, extend, classL}, "11111"},
		{"ignore Extend LF\nkeep LF", []int{classL, lf, extend, classL}, "10011"},
		{"ignore Other", []int{classL, 36, -1, 99, math.MinInt, math.MaxInt, 0}, "10000001"},
		{"Other ! Other", []int{36, -1, 35, 36, math.MaxInt, math.MinInt}, "1011001"},
		{"^ Other ! L", []int{36, classL, 36, classL}, "10111"},
		{"^ (Regional Regional)* Regional ! Regional", slices.Repeat([]int{regional}, 7), "10101011"},
	} {
		if got := texts(read(t, x.lines).Breaks(x.ids)); got != x.want {
			t.Errorf("%q, %d: %s, not %s", x.lines, x.ids, got, x.want)
		}
		hold(t, x.lines, read(t, x.lines), x.ids)
	}
}

func TestWhich(t *testing.T) {
	x := read(t, "ignore Extend", "L ! V", "V /", "L ! any", "^ any V ! L")
	ids := []int{classL, extend, classV, classL, classL, extend, classT, classV}
	for i, want := range map[int]int{
		0: -1, 1: -1, 2: 0, 3: 1, 4: 2, 5: -1, 6: 2, 7: -1,
		8: -1, 9: -1, -1: -1, math.MinInt: -1, math.MaxInt: -1, 1 << 40: -1,
	} {
		if got := x.Which(ids, i); got != want {
			t.Errorf("%d: %d, not %d", i, got, want)
		}
	}
	for _, i := range []int{-1, 0, 1} {
		if x.Which(nil, i) != -1 || read(t, "!").Which([]int{classL}, i) != -1 {
			t.Error("a list of none, or of one", i)
		}
	}
	several := read(t, "L ! V V", "L / V", "! V", "!")
	for i, want := range []int{-1, 0, 2, 3, 1, 3, 3} {
		if got := several.Which([]int{classL, classV, classV, classL, classV, classL, classT}, i); got != want {
			t.Errorf("several rules, %d: %d, not %d", i, got, want)
		}
	}
}

// step is a class that is pushed, what is answered, and how many positions wait then.
type step struct {
	id    int
	want  string
	waits int
}

// TestRunner asks runners of each step.
func TestRunner(t *testing.T) {
	for _, x := range []struct {
		lines string
		steps []step
		rest  string
	}{
		{"CR ! LF", nil, ""},
		{"CR ! LF", []step{{cr, "", 0}}, ""},
		{"CR ! LF", []step{{cr, "", 0}, {lf, "", 1}}, "0"},
		{"CR ! LF", []step{{cr, "", 0}, {lf, "", 1}, {lf, "", 2}, {lf, "", 3}, {lf, "0", 3}, {cr, "1", 3}, {lf, "1", 3}}, "110"},
		{"ignore Extend\nL ! V", []step{{classL, "", 0}, {extend, "0", 0}, {extend, "0", 0}, {classV, "", 1}, {extend, "", 2}}, "00"},
		{"ignore Extend\nL ! V", []step{{extend, "", 0}, {extend, "0", 0}, {extend, "0", 0}}, ""},
		{"ignore Extend", []step{
			{classL, "", 0}, {classV, "", 1}, {extend, "", 2}, {extend, "", 3}, {classV, "", 4}, {extend, "", 5}, {classV, "", 6},
			{classT, "100", 4}, {extend, "", 5}, {extend, "", 6}, {classT, "10", 5}, {extend, "", 6},
		}, "110010"},
		{"ignore Extend\nkeep LF", []step{{lf, "", 0}, {extend, "", 1}, {extend, "", 2}, {lf, "", 3}, {extend, "", 4}, {lf, "10", 3}}, "111"},
		{"! V V V V", []step{{classL, "", 0}, {classV, "", 1}, {classV, "", 2}, {classV, "", 3}, {classV, "0", 3}, {classV, "0", 3}, {-7, "1", 3}}, "111"},
		{"Other ! Other", []step{{99, "", 0}, {-1, "", 1}, {36, "", 2}, {0, "", 3}, {35, "0", 3}}, "001"},
		{"", slices.Repeat([]step{{lf, "", 0}}, 1), ""},
	} {
		r := read(t, x.lines).Run()
		if r.Waits() != 0 {
			t.Errorf("%q: waits at first", x.lines)
		}
		for i, s := range x.steps {
			if got := texts(r.Push(s.id)); got != s.want || r.Waits() != s.waits {
				t.Errorf("%q, %d: %s, not %s; %d wait, not %d", x.lines, i, got, s.want, r.Waits(), s.waits)
			}
		}
		if got := texts(r.Close()); got != x.rest {
			t.Errorf("%q: Close: %s, not %s", x.lines, got, x.rest)
		}
		holdClosed(t, x.lines, r)
	}
}

// TestManyHidden has many hidden positions behind one that waits, and behind none.
func TestManyHidden(t *testing.T) {
	const count = 100000
	r := read(t, "ignore Extend", "!").Run()
	r.Push(classL)
	r.Push(classV)
	for i := range count {
		if len(r.Push(extend)) != 0 || r.Waits() != i+2 {
			t.Fatal(i, r.Waits())
		}
	}
	r.Push(classV)
	r.Push(classV)
	if got := r.Push(classV); len(got) != count+1 || slices.Contains(got, true) || r.Waits() != 3 {
		t.Fatal(len(got), r.Waits())
	}
	r = read(t, "ignore Extend").Run()
	r.Push(classL)
	for range count {
		if got := r.Push(extend); !slices.Equal(got, []bool{false}) || r.Waits() != 0 {
			t.Fatal(got, r.Waits())
		}
	}
	if got := r.Close(); len(got) != 0 {
		t.Fatal(got)
	}
}

// TestNil asks a nil runner, and one that no table ran.
func TestNil(t *testing.T) {
	var none *table.Runner
	for range 2 {
		for _, id := range []int{0, classL, 36, -1, math.MaxInt} {
			if len(none.Push(id)) != 0 || len(none.Close()) != 0 || none.Waits() != 0 {
				t.Error("nil")
			}
		}
	}
	holdClosed(t, "no table's", new(table.Runner))
}

// TestSideBySide has two runners of one table, and a third one behind them.
func TestSideBySide(t *testing.T) {
	x := read(t, "ignore Extend", "L V* ! V", "V ! L L")
	first, second := x.Run(), x.Run()
	one := []int{classL, classV, extend, classV, classV, classL, classV, classL, classL, classV}
	two := []int{classV, classL, extend, extend, classL, classT, lf, classL, classL, classV}
	var gotOne, gotTwo []bool
	for i := range one {
		gotOne = append(gotOne, first.Push(one[i])...)
		gotTwo = append(gotTwo, second.Push(two[i])...)
	}
	gotOne = append(gotOne, first.Close()...)
	gotTwo = append(gotTwo, second.Push(extend)...)
	gotTwo = append(gotTwo, second.Close()...)
	if want := inner(x.Breaks(one)); !slices.Equal(gotOne, want) {
		t.Errorf("%t, not %t", gotOne, want)
	}
	if want := inner(x.Breaks(append(two, extend))); !slices.Equal(gotTwo, want) {
		t.Errorf("%t, not %t", gotTwo, want)
	}
	if got, want := together(x.Run(), one), inner(x.Breaks(one)); !slices.Equal(got, want) {
		t.Errorf("a third one: %t, not %t", got, want)
	}
}

// TestEmbedded asks a runner for what it embeds: its table, and the table's rows.
func TestEmbedded(t *testing.T) {
	x := read(t, "ignore Extend", "CR ! LF", "/ V")
	r := x.Run()
	r.Push(cr)
	ids := []int{cr, extend, lf, classV}
	if !table.Same(r.Table, x) || r.Rules != 2 || r.Left.Width != x.Left.Packed.Width {
		t.Errorf("%+v", r.Table)
	}
	if !slices.Equal(r.Breaks(ids), x.Breaks(ids)) || r.Which(ids, 3) != 1 || !slices.Equal(together(r.Run(), ids), inner(x.Breaks(ids))) {
		t.Error("promoted methods")
	}
	if r.Close(); !table.Same(r.Table, x) {
		t.Error("closed")
	}
}

// TestRunShares overwrites each list of a table, and of a runner's table: a runner goes on with what the table was.
func TestRunShares(t *testing.T) {
	ids := []int{classL, extend, classV, classV, lf, classL, classV, extend, classV, classL, classL, classV}
	for what, overwrite := range spoilers() {
		x := read(t, "ignore Extend", "keep LF", "L V* ! V", "V ! L L", "LF / any")
		want := copied(x)
		r, other := x.Run(), x.Run()
		var got []bool
		for i, id := range ids {
			if i == 5 {
				overwrite(x)
			}
			got = append(got, r.Push(id)...)
		}
		got = append(got, r.Close()...)
		if !slices.Equal(got, inner(want.Breaks(ids))) {
			t.Errorf("%s: %t", what, got)
		}
		overwrite(r.Table)
		if got := together(other, ids); !slices.Equal(got, inner(want.Breaks(ids))) {
			t.Errorf("%s of another runner: %t", what, got)
		}
	}
	x := read(t, "ignore Extend", "L ! V")
	before := copied(x)
	for _, overwrite := range spoilers() {
		overwrite(x.Run().Table)
	}
	if !table.Same(x, before) {
		t.Error("a runner's table shares with its table")
	}
}

// TestKeeps holds arguments, and what lies behind their ends, against what they were, and answers against one another.
func TestKeeps(t *testing.T) {
	x := read(t, "ignore Extend", "keep LF", "L ! V")
	before := copied(x)
	ids := []int{classL, 99, extend, -7, classV}
	first, again := x.Breaks(ids[:3]), x.Breaks(ids[:3])
	spoil(first)
	x.Which(ids[:3], 1)
	table.Right(x)
	table.Same(x, before)
	if texts(again) != "1101" || !slices.Equal(ids, []int{classL, 99, extend, -7, classV}) || !table.Same(x, before) {
		t.Error("an argument, or an answer, was changed", again, ids)
	}
	r := x.Run()
	var told [][]bool
	for range 9 {
		told = append(told, r.Push(classL))
	}
	for i, l := range told {
		spoil(l)
		if i > 4 && len(l) != 1 {
			t.Error(i, l)
		}
	}
	if got := r.Close(); texts(got) != "111" {
		t.Error(got)
	}
}

// TestLong has lists of as many classes as a text may have bytes, for runners and Breaks.
func TestLong(t *testing.T) {
	x := read(t, "ignore Extend", "CR ! LF", "L L ! V V", "! Extend", "/")
	ids := slices.Repeat([]int{cr, lf, extend, classL, classL, extend, classV, classV, other}, api.MaxLen/9)
	want := strings.Repeat("100110011", api.MaxLen/9) + "1"
	if got := texts(x.Breaks(ids)); got != want {
		t.Error("Breaks", got[:20])
	}
	if got := texts(together(x.Run(), ids)); got != want[1:len(want)-1] {
		t.Error("a runner", got[:20])
	}
	flags := read(t, "^ (Regional Regional)* Regional ! Regional", "~Regional (Regional Regional)* Regional ! Regional")
	if got := texts(flags.Breaks(slices.Repeat([]int{regional}, api.MaxLen))); got != strings.Repeat("10", api.MaxLen/2)+"1" {
		t.Error("many flags", got[:20])
	}
	for i, want := range map[int]int{1: 0, 2: -1, len(ids) - 1: 3, len(ids): -1} {
		if got := x.Which(ids, i); got != want {
			t.Errorf("%d: %d, not %d", i, got, want)
		}
	}
}
