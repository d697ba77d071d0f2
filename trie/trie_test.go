package trie_test

import (
	"math"
	"math/rand"
	"slices"
	"testing"

	"virgule/api"
	"virgule/ranges"
	"virgule/trie"
)

const (
	numbers   = api.MaxRune + 1
	blockSize = 256
)

// edges are numbers at the bounds, at blocks' ends, at the surrogates, and outside.
func edges() []rune {
	return []rune{
		0, 1, 0x61, 0xfe, 0xff, 0x100, 0x101, 0x1ff, 0x200, 0xd7ff, 0xd800, 0xdfff, 0xe000, 0xffff, 0x10000,
		0x10feff, 0x10ff00, 0x10fffe, 0x10ffff,
	}
}

func outside() []rune {
	return []rune{-1, -2, -256, -257, 0x110000, 0x110001, 0x1100ff, math.MinInt32, math.MaxInt32}
}

func span(lo, hi rune) ranges.Set {
	return ranges.Set{{Lo: lo, Hi: hi}}
}

func entry(lo, hi rune, class int) trie.Entry {
	return trie.Entry{Set: span(lo, hi), Class: class}
}

// classesOf is the class of each number, by the chapter's definition: that of the last entry that has the number.
func classesOf(other int, l []trie.Entry) []int {
	out := slices.Repeat([]int{other}, numbers)
	for _, e := range l {
		for _, x := range e.Set {
			for r := x.Lo; r <= x.Hi; r++ {
				out[r] = e.Class
			}
		}
	}
	return out
}

func build(t *testing.T, other int, l ...trie.Entry) *trie.Trie {
	t.Helper()
	x, err := trie.New(other, l...)
	if err != api.OK || x == nil {
		t.Fatalf("New(%d, %v): %v %d", other, l, x, err)
	}
	return x
}

// check holds all that a trie tells against the chapter's definition.
func check(t *testing.T, other int, l ...trie.Entry) *trie.Trie {
	t.Helper()
	x := build(t, other, l...)
	want := classesOf(other, l)
	for r, class := range want {
		if got := x.Get(rune(r)); got != class {
			t.Fatalf("Get(%x): %d, not %d", r, got, class)
		}
	}
	for _, r := range outside() {
		if got := x.Get(r); got != other {
			t.Fatalf("Get(%x): %d, not %d", r, got, other)
		}
	}
	checkSets(t, x, want)
	return x
}

// checkSets holds sets, blocks and classes against the class of each number.
func checkSets(t *testing.T, x *trie.Trie, want []int) {
	t.Helper()
	sets := map[int]ranges.Set{}
	blocks := map[[blockSize]int]bool{}
	var classes []int
	for r, class := range want {
		s := sets[class]
		if len(s) > 0 && s[len(s)-1].Hi == rune(r-1) {
			s[len(s)-1].Hi++
		} else {
			sets[class] = append(s, ranges.Range{Lo: rune(r), Hi: rune(r)})
		}
		if r%blockSize == 0 {
			blocks[[blockSize]int(want[r:])] = true
		}
	}
	for class := -2; class < 260; class++ {
		got := x.Set(class)
		if !ranges.Right(got) || !slices.Equal(got, sets[class]) {
			t.Fatalf("Set(%d): %x, not %x", class, got, sets[class])
		}
		if len(sets[class]) > 0 {
			classes = append(classes, class)
		}
	}
	if got := x.Classes(); !slices.Equal(got, classes) {
		t.Fatalf("Classes: %d, not %d", got, classes)
	}
	if got := x.Blocks(); got != len(blocks) {
		t.Fatalf("Blocks: %d, not %d", got, len(blocks))
	}
}

func TestExample(t *testing.T) {
	x := check(t, 0, entry(0x61, 0x63, 5), entry(0x63, 0x63, 7))
	if x.Get(0x62) != 5 || x.Get(0x63) != 7 || x.Blocks() != 2 {
		t.Error(x.Get(0x62), x.Get(0x63), x.Blocks())
	}
}

// P3.1, P3.2: tries at the edges.
func TestByDefinition(t *testing.T) {
	check(t, 0)
	check(t, 255)
	check(t, 9, entry(0, api.MaxRune, 9))
	check(t, 9, entry(0, api.MaxRune, 8))
	check(t, 0, entry(0, 0, 255), entry(api.MaxRune, api.MaxRune, 255))
	check(t, 255, entry(0, 0, 0), entry(0xff, 0x100, 0))
	check(t, 1, trie.Entry{Class: 2})
	check(t, 3, entry(0xd800, 0xdfff, 4), entry(0xd7ff, 0xd800, 5))
	check(t, 1, entry(5, 9, 2), entry(5, 9, 3), entry(7, 7, 1))
	check(t, 1, entry(7, 7, 1), entry(5, 9, 3), entry(4, 9, 2))
	check(t, 1, entry(0, 0xff, 2), entry(0x200, 0x2ff, 2), entry(0x301, 0x3ff, 2))
	check(t, 0, entry(0x41, 0x41, 1), entry(0x141, 0x141, 1), entry(0x242, 0x242, 1))
}

// P3.1, P3.2: tries of entries at random places, which overlap.
func TestManyByDefinition(t *testing.T) {
	random := rand.New(rand.NewSource(3))
	for range 20 {
		var l []trie.Entry
		for range random.Intn(8) {
			l = append(l, randomEntry(random))
		}
		check(t, random.Intn(4)*85, l...)
	}
}

func randomEntry(random *rand.Rand) trie.Entry {
	places := edges()
	var l []ranges.Range
	for range random.Intn(4) {
		lo := places[random.Intn(len(places))]
		hi := min(api.MaxRune, lo+rune(random.Intn(600)))
		l = append(l, ranges.Range{Lo: lo, Hi: hi})
	}
	s, _ := ranges.Make(l...)
	return trie.Entry{Set: s, Class: random.Intn(4) * 85}
}

// P3.1: the class of a number is that of the last entry, and all 256 classes may be.
func TestAllClasses(t *testing.T) {
	for _, lower := range []int{0, 56} {
		var l []trie.Entry
		for class := lower; class < lower+trie.MaxEntries; class++ {
			l = append(l, entry(rune(class), rune(class)+300, class))
		}
		check(t, 255, l...)
	}
}

// P3.2: a set may have more ranges than ranges.Make takes; all blocks but the first are equal, or unlike.
func TestSetsOfManyRanges(t *testing.T) {
	var even, odd ranges.Set
	for r := rune(0); r <= api.MaxRune; r += 2 {
		even = append(even, ranges.Range{Lo: r, Hi: r})
		odd = append(odd, ranges.Range{Lo: r + 1, Hi: r + 1})
	}
	x := check(t, 0, trie.Entry{Set: even, Class: 6})
	y := check(t, 6, trie.Entry{Set: odd, Class: 0})
	if x.Blocks() != 1 || trie.Same(x, y) {
		t.Error("Blocks, Same", x.Blocks())
	}
	var steps []trie.Entry
	for i := range trie.MaxEntries {
		var s ranges.Set
		for block := rune(i); block < numbers/blockSize; block += trie.MaxEntries {
			s = append(s, ranges.Range{Lo: block * blockSize, Hi: block*blockSize + block/trie.MaxEntries})
		}
		steps = append(steps, trie.Entry{Set: s, Class: i})
	}
	if x := check(t, 255, steps...); x.Blocks() != numbers/blockSize {
		t.Error("all blocks unlike", x.Blocks())
	}
}

func TestNewOfTooMany(t *testing.T) { // P3.1
	full := slices.Repeat([]trie.Entry{entry(1, 2, 3)}, trie.MaxEntries)
	check(t, 0, full...)
	more := append(full, entry(1, 2, 3))
	for _, last := range []trie.Entry{{}, entry(1, 2, 3), entry(1, 2, -1), entry(2, 1, 0)} {
		more[trie.MaxEntries] = last
		for _, other := range []int{0, -1, 256} {
			if x, err := trie.New(other, more...); x != nil || err != api.ErrLong {
				t.Error("ErrLong goes first", other, last, err)
			}
		}
	}
	if trie.MaxEntries != 200 {
		t.Error("MaxEntries", trie.MaxEntries)
	}
}

func TestNewOfWrongEntries(t *testing.T) { // P3.1
	for _, class := range []int{-1, 256, 257, 512, math.MinInt, math.MaxInt} {
		if x, err := trie.New(class); x != nil || err != api.ErrArg {
			t.Error("New of a default class", class, err)
		}
		for _, e := range []trie.Entry{{Class: class}, entry(1, 2, class)} {
			refused(t, e)
		}
	}
	for _, s := range []ranges.Set{
		span(2, 1), span(-1, 1), span(0, api.MaxRune+1), {{Lo: 1, Hi: 2}, {Lo: 3, Hi: 4}}, {{Lo: 5, Hi: 6}, {Lo: 1, Hi: 2}},
		span(math.MinInt32, math.MaxInt32), {{Lo: 1, Hi: 2}, {Lo: 2, Hi: 4}}, {{Lo: 1, Hi: 2}, {Lo: 4, Hi: 3}},
	} {
		refused(t, trie.Entry{Set: s, Class: 1})
	}
}

// refused wants ErrArg wherever an entry stands.
func refused(t *testing.T, e trie.Entry) {
	t.Helper()
	good := entry(1, 2, 3)
	for _, l := range [][]trie.Entry{{e}, {good, e}, {e, good}, {good, e, good}} {
		if x, err := trie.New(0, l...); x != nil || err != api.ErrArg {
			t.Error("New", l, err)
		}
	}
}

func TestSame(t *testing.T) { // P3.2
	tries := []*trie.Trie{
		nil,
		build(t, 0),
		build(t, 1),
		build(t, 0, entry(0, api.MaxRune, 1)),
		build(t, 0, entry(0, api.MaxRune-1, 1)),
		build(t, 0, entry(1, api.MaxRune, 1)),
		build(t, 0, entry(0, 0, 1)),
		build(t, 0, entry(0x100, 0x100, 1)),
		build(t, 0, entry(0x100, 0x100, 1), entry(0x200, 0x200, 1)),
		build(t, 0, entry(0x200, 0x200, 1)),
		build(t, 0, entry(0x100, 0x100, 2), entry(0x200, 0x200, 1)),
	}
	for i, a := range tries {
		for j, b := range tries {
			if trie.Same(a, b) != (i == j) {
				t.Error("Same", i, j, trie.Same(a, b))
			}
		}
	}
}

// P3.2: tries of unlike entries that tell the same are the same, whatever the entries' order.
func TestSameOfUnlikeEntries(t *testing.T) {
	x := build(t, 4, entry(0x61, 0x63, 5), entry(0x350, 0x950, 6), entry(0x400, 0x400, 4))
	for _, l := range [][]trie.Entry{
		{entry(0x350, 0x3ff, 6), entry(0x401, 0x950, 6), entry(0x61, 0x63, 5)},
		{entry(0x63, 0x63, 5), entry(0x62, 0x62, 5), entry(0, 0x61, 5), entry(0, 0x60, 4), entry(0x350, 0x950, 6), entry(0x400, 0x400, 4)},
		{entry(0, api.MaxRune, 9), entry(0, api.MaxRune, 4), entry(0x61, 0x63, 5), entry(0x350, 0x950, 6), entry(0x400, 0x400, 4)},
	} {
		if y := build(t, 4, l...); !trie.Same(x, y) || !trie.Same(y, x) {
			t.Error("Same", l)
		}
		if y := build(t, 0, l...); trie.Same(x, y) {
			t.Error("not Same: another default class", l)
		}
	}
}

func TestNil(t *testing.T) { // P3.1, P3.2
	var x *trie.Trie
	for _, r := range append(edges(), outside()...) {
		if got := x.Get(r); got != 0 {
			t.Error("Get", r, got)
		}
	}
	for _, class := range []int{-1, 0, 1, 255, 256} {
		if got := x.Set(class); len(got) != 0 {
			t.Error("Set", class, got)
		}
	}
	if x.Blocks() != 0 || len(x.Classes()) != 0 || !trie.Same(x, nil) {
		t.Error("Blocks, Classes, Same")
	}
}

// P3.3: the sets of all classes have each number once.
func TestSetsShareAllNumbers(t *testing.T) {
	x := build(t, 7, entry(0, 0x300, 1), entry(0x80, 0x5000, 2), entry(0x10000, 0x10ffff, 0), entry(0x4000, 0x4000, 255))
	var all ranges.Set
	count := 0
	for class := range 256 {
		s := x.Set(class)
		all = ranges.Union(all, s)
		count += ranges.Count(s)
	}
	if count != numbers || !ranges.Same(all, span(0, api.MaxRune)) {
		t.Error(count, all)
	}
}

// Rule 4: arguments are not changed and not kept, and results are new.
func TestArgumentsAreLeftAlone(t *testing.T) {
	sets := []ranges.Range{{Lo: 1, Hi: 2}, {Lo: 4, Hi: 5}, {Lo: 9, Hi: 9}}
	before := slices.Clone(sets)
	l := []trie.Entry{{Set: sets[:2], Class: 3}, entry(5, 5, 4), entry(7, 7, 7)}
	x := build(t, 0, l[:2]...)
	if !slices.Equal(sets, before) || l[2].Class != 7 || l[0].Class != 3 || l[2].Set[0].Lo != 7 {
		t.Error("arguments changed", sets, l)
	}
	sets[0] = ranges.Range{Lo: 100, Hi: 200}
	l[1].Class = 9
	if x.Get(1) != 3 || x.Get(100) != 0 || x.Get(5) != 4 {
		t.Error("arguments kept")
	}
	s, classes := x.Set(3), x.Classes()
	s[0] = ranges.Range{Lo: 50, Hi: 60}
	classes[0] = 77
	if ranges.Print(x.Set(3)) != "0001-0002,0004" || !slices.Equal(x.Classes(), []int{0, 3, 4}) {
		t.Error("results kept", x.Set(3), x.Classes())
	}
}
