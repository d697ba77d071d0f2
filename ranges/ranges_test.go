package ranges_test

import (
	"math"
	"slices"
	"strconv"
	"strings"
	"testing"

	"virgule/api"
	"virgule/ranges"
)

const width = 7 // numbers of the small worlds in which sets are gone through one by one

// bases are where the small worlds begin: at the least number, at the greatest ones, and amid the surrogates.
func bases() []rune {
	return []rune{0, api.MaxRune - width + 1, 0xd800}
}

// setOf is the valid set of the numbers base + i whose bit i is set.
func setOf(base rune, bits int) ranges.Set {
	var s ranges.Set
	for i := range width + 1 {
		in := bits>>i&1 == 1
		before := i > 0 && bits>>(i-1)&1 == 1
		switch {
		case in && !before:
			s = append(s, ranges.Range{Lo: base + rune(i), Hi: base + rune(i)})
		case in:
			s[len(s)-1].Hi++
		}
	}
	return s
}

func bitsOf(base rune, l []ranges.Range) int {
	bits := 0
	for _, r := range l {
		for n := r.Lo; n <= r.Hi; n++ {
			bits |= 1 << (n - base)
		}
	}
	return bits
}

func equal(t *testing.T, what string, got, want ranges.Set) {
	t.Helper()
	if !slices.Equal(got, want) {
		t.Fatalf("%s: %x, not %x", what, got, want)
	}
}

// spread is n ranges of one number each, with one number missing between any two.
func spread(n int) []ranges.Range {
	l := make([]ranges.Range, n)
	for i := range l {
		l[i] = ranges.Range{Lo: rune(2 * i), Hi: rune(2 * i)}
	}
	return l
}

// wrongSets are lists of ranges that are no valid sets.
func wrongSets() []ranges.Set {
	return []ranges.Set{
		{{Lo: 5, Hi: 4}},
		{{Lo: -1, Hi: 4}},
		{{Lo: -9, Hi: -3}},
		{{Lo: 0x10fff0, Hi: 0x110000}},
		{{Lo: math.MinInt32, Hi: math.MaxInt32}},
		{{Lo: 1, Hi: math.MaxInt32}, {Lo: math.MinInt32, Hi: 2}},
		{{Lo: 1, Hi: 2}, {Lo: 3, Hi: 4}},
		{{Lo: 1, Hi: 3}, {Lo: 3, Hi: 4}},
		{{Lo: 1, Hi: 9}, {Lo: 3, Hi: 4}},
		{{Lo: 1, Hi: 2}, {Lo: 1, Hi: 2}},
		{{Lo: 7, Hi: 8}, {Lo: 1, Hi: 2}},
		{{Lo: 1, Hi: 2}, {Lo: 5, Hi: 4}, {Lo: 9, Hi: 9}},
		{{Lo: 1, Hi: 2}, {Lo: 4, Hi: 5}, {Lo: 6, Hi: 6}},
	}
}

func TestExample(t *testing.T) {
	s, err := ranges.Make(ranges.Range{Lo: 0x61, Hi: 0x63}, ranges.Range{Lo: 0x64, Hi: 0x65})
	if err != api.OK || ranges.Print(s) != "0061-0065" {
		t.Error(s, err)
	}
}

// P2.1: any three ranges of a small world, in any order, touching and overlapping.
func TestMakeByDefinition(t *testing.T) {
	for _, base := range bases() {
		var each []ranges.Range
		for lo := base; lo < base+5; lo++ {
			for hi := lo; hi < base+5; hi++ {
				each = append(each, ranges.Range{Lo: lo, Hi: hi})
			}
		}
		for _, a := range each {
			for _, b := range each {
				for _, c := range each {
					got, err := ranges.Make(a, b, c)
					equal(t, "Make", got, setOf(base, bitsOf(base, []ranges.Range{a, b, c})))
					if err != api.OK {
						t.Fatal("Make", a, b, c, err)
					}
				}
			}
		}
	}
}

func TestMakeLimits(t *testing.T) { // P2.1
	if s, err := ranges.Make(); len(s) != 0 || err != api.OK {
		t.Error("no ranges", s, err)
	}
	if s, err := ranges.Make(ranges.Range{Lo: 0, Hi: api.MaxRune}); len(s) != 1 || err != api.OK || ranges.Count(s) != 0x110000 {
		t.Error("all numbers", s, err)
	}
	full := spread(ranges.MaxRanges)
	s, err := ranges.Make(full...)
	if err != api.OK {
		t.Error("MaxRanges ranges", err)
	}
	equal(t, "MaxRanges ranges", s, full)
	if s, err := ranges.Make(spread(ranges.MaxRanges + 1)...); s != nil || err != api.ErrLong {
		t.Error("more than MaxRanges ranges", len(s), err)
	}
	same := slices.Repeat([]ranges.Range{{Lo: 1, Hi: 2}}, ranges.MaxRanges+1)
	if s, err := ranges.Make(same...); s != nil || err != api.ErrLong {
		t.Error("more than MaxRanges ranges that are one", s, err)
	}
	same[0] = ranges.Range{Lo: 5, Hi: 4}
	if _, err := ranges.Make(same...); err != api.ErrLong {
		t.Error("ErrLong goes ahead of ErrArg", err)
	}
	if ranges.MaxRanges != 1000 {
		t.Error("MaxRanges", ranges.MaxRanges)
	}
}

func TestMakeOfWrongRanges(t *testing.T) { // P2.1
	for _, r := range []ranges.Range{
		{Lo: 5, Hi: 4}, {Lo: -1, Hi: 0}, {Lo: -1, Hi: -1}, {Lo: 0, Hi: 0x110000}, {Lo: 0x110000, Hi: 0x110000},
		{Lo: 0, Hi: -1}, {Lo: math.MinInt32, Hi: math.MaxInt32}, {Lo: math.MaxInt32, Hi: math.MinInt32},
	} {
		for _, l := range [][]ranges.Range{{r}, {{Lo: 1, Hi: 2}, r}, {r, {Lo: 1, Hi: 2}}} {
			if s, err := ranges.Make(l...); s != nil || err != api.ErrArg {
				t.Errorf("Make(%x): %x %d", l, s, err)
			}
		}
	}
}

// P2.1: any two ranges between just below the bounds and just above some numbers.
func TestRightByDefinition(t *testing.T) {
	if !ranges.Right(nil) || !ranges.Right(ranges.Set{}) {
		t.Error("the empty set is valid")
	}
	for _, low := range []rune{-1, api.MaxRune - 4} {
		inBounds := func(r ranges.Range) bool { return r.Lo >= 0 && r.Lo <= r.Hi && r.Hi <= api.MaxRune }
		var each []ranges.Range
		for lo := low; lo < low+6; lo++ {
			for hi := low; hi < low+6; hi++ {
				each = append(each, ranges.Range{Lo: lo, Hi: hi})
			}
		}
		for _, a := range each {
			if got := ranges.Right(ranges.Set{a}); got != inBounds(a) {
				t.Errorf("Right of %x: %v", a, got)
			}
			for _, b := range each {
				want := inBounds(a) && inBounds(b) && b.Lo-a.Hi > 1
				if got := ranges.Right(ranges.Set{a, b}); got != want {
					t.Errorf("Right of %x, %x: %v", a, b, got)
				}
			}
		}
	}
	for _, s := range wrongSets() {
		if ranges.Right(s) {
			t.Errorf("Right of %x", s)
		}
	}
	if !ranges.Right(spread(ranges.MaxRanges + 1)) {
		t.Error("a valid set may have more than MaxRanges ranges")
	}
}

// P2.1, P2.2: each set of a small world, and each two.
func TestOperationsByDefinition(t *testing.T) {
	for _, base := range bases() {
		for x := range 1 << width {
			a := setOf(base, x)
			checkNumbers(t, base, x, a)
			for y := range 1 << width {
				b := setOf(base, y)
				equal(t, "Union", ranges.Union(a, b), setOf(base, x|y))
				equal(t, "Cut", ranges.Cut(a, b), setOf(base, x&y))
				equal(t, "Minus", ranges.Minus(a, b), setOf(base, x&^y))
				if ranges.Same(a, b) != (x == y) {
					t.Fatalf("Same(%x, %x)", a, b)
				}
			}
		}
	}
}

// checkNumbers asks all that is asked of one set.
func checkNumbers(t *testing.T, base rune, bits int, s ranges.Set) {
	t.Helper()
	rest := ranges.Not(s)
	if !ranges.Right(rest) {
		t.Fatalf("Not(%x): %x is not valid", s, rest)
	}
	count := 0
	for n := base - 2; n < base+width+2; n++ {
		i := n - base
		want := 0 <= i && i < width && bits>>i&1 == 1
		if ranges.Has(s, n) != want {
			t.Fatalf("Has(%x, %x): not %v", s, n, want)
		}
		inBounds := 0 <= n && n <= api.MaxRune
		if ranges.Has(rest, n) != (inBounds && !want) {
			t.Fatalf("Not(%x) and %x", s, n)
		}
		if want {
			count++
		}
	}
	if ranges.Count(s) != count || ranges.Count(rest) != 0x110000-count {
		t.Fatalf("Count(%x): %d, not %d", s, ranges.Count(s), count)
	}
}

func TestNot(t *testing.T) { // P2.2
	all := ranges.Set{{Lo: 0, Hi: api.MaxRune}}
	equal(t, "Not of none", ranges.Not(nil), all)
	equal(t, "Not of all", ranges.Not(all), nil)
	equal(t, "Not", ranges.Not(ranges.Set{{Lo: 0, Hi: 5}, {Lo: 9, Hi: 9}, {Lo: 0x10ffff, Hi: 0x10ffff}}), ranges.Set{{Lo: 6, Hi: 8}, {Lo: 10, Hi: 0x10fffe}})
}

func TestUnionOfMany(t *testing.T) { // P2.2
	equal(t, "Union()", ranges.Union(), nil)
	equal(t, "Union(nil)", ranges.Union(nil, nil), nil)
	var each []ranges.Set
	for _, r := range spread(ranges.MaxRanges + 500) {
		each = append(each, ranges.Set{r})
	}
	slices.Reverse(each)
	equal(t, "Union of more than MaxRanges", ranges.Union(each...), spread(ranges.MaxRanges+500))
	equal(t, "Union with a set that is not valid", ranges.Union(each[0], ranges.Set{{Lo: 5, Hi: 4}}, each[0]), each[0])
}

func TestHasOutside(t *testing.T) { // P2.1
	all := ranges.Not(nil)
	for _, r := range []rune{math.MinInt32, -1, 0x110000, math.MaxInt32} {
		if ranges.Has(all, r) {
			t.Errorf("%x", r)
		}
	}
}

// What is not valid counts as the empty set, wherever it is passed.
func TestWrongSetsAreEmpty(t *testing.T) {
	good := ranges.Set{{Lo: 1, Hi: 3}, {Lo: 0x10fff0, Hi: 0x10ffff}}
	for _, s := range wrongSets() {
		for r := rune(-1); r < 10; r++ {
			if ranges.Has(s, r) {
				t.Errorf("Has(%x, %x)", s, r)
			}
		}
		if n := ranges.Count(s); n != 0 {
			t.Errorf("Count(%x): %d", s, n)
		}
		if got := ranges.Print(s); got != "none" {
			t.Errorf("Print(%x): %s", s, got)
		}
		if !ranges.Same(s, nil) || !ranges.Same(nil, s) || ranges.Same(s, good) || ranges.Same(good, s) {
			t.Errorf("Same and %x", s)
		}
		equal(t, "Union", ranges.Union(s, good), good)
		equal(t, "Union", ranges.Union(good, s), good)
		equal(t, "Union", ranges.Union(s), nil)
		equal(t, "Cut", ranges.Cut(s, good), nil)
		equal(t, "Cut", ranges.Cut(good, s), nil)
		equal(t, "Minus", ranges.Minus(s, good), nil)
		equal(t, "Minus", ranges.Minus(good, s), good)
		equal(t, "Not", ranges.Not(s), ranges.Set{{Lo: 0, Hi: api.MaxRune}})
	}
}

func TestPrint(t *testing.T) { // P2.3
	for _, x := range []struct {
		s    ranges.Set
		want string
	}{
		{nil, "none"},
		{ranges.Set{}, "none"},
		{ranges.Set{{Lo: 0, Hi: 0}}, "0000"},
		{ranges.Set{{Lo: 0x41, Hi: 0x41}, {Lo: 0x43, Hi: 0x44}}, "0041,0043-0044"},
		{ranges.Set{{Lo: 0xabc, Hi: 0xabcd}, {Lo: 0x1f600, Hi: 0x10ffff}}, "0abc-abcd,1f600-10ffff"},
	} {
		if got := ranges.Print(x.s); got != x.want {
			t.Errorf("Print(%x): %s, not %s", x.s, got, x.want)
		}
		if got, err := ranges.Parse(x.want); !slices.Equal(got, x.s) || err != api.OK {
			t.Errorf("Parse(%s): %x %d", x.want, got, err)
		}
	}
}

func TestParseOfWrongTexts(t *testing.T) { // P2.3
	for _, s := range []string{
		"", ",", "-", "None", "none,0041", "none ", "41", "041", "00041", "004A", "004g", "0041-0041", "0044-0041",
		"0041,", ",0041", "0041,,0043", "0041-", "-0041", "0041-0042-0043", "0041--0043", "0041 ,0043", "0041, 0043", " 0041", "0041\n",
		"0041,0042", "0041-0043,0044", "0041-0045,0043-0050", "0050,0041", "0041,0041", "+0041", "0x41", "00_41", "-0041-0043",
		"110000", "0041-110000", "ffffffff", "80000000", "100000041", "10000000000000041", "U+0041", "0041;0043", "0041-00043",
	} {
		if got, err := ranges.Parse(s); got != nil || err != api.ErrForm {
			t.Errorf("Parse(%q): %x %d", s, got, err)
		}
	}
}

func TestParseLimits(t *testing.T) { // P2.3
	full := ranges.Set(spread(ranges.MaxRanges))
	got, err := ranges.Parse(ranges.Print(full))
	if err != api.OK {
		t.Error("MaxRanges ranges", err)
	}
	equal(t, "Parse", got, full)
	more := ranges.Print(spread(ranges.MaxRanges + 1))
	if strings.Count(more, ",") != ranges.MaxRanges {
		t.Error("Print has no limit", strings.Count(more, ","))
	}
	if got, err := ranges.Parse(more); got != nil || err != api.ErrForm {
		t.Error("more than MaxRanges ranges", len(got), err)
	}
}

// P2.3, P2.4: each set of a small world is printed as the chapter writes it, and parsed again.
func TestTextOfEachSet(t *testing.T) {
	hex := func(r rune) string {
		s := strconv.FormatInt(int64(r), 16)
		for len(s) < 4 {
			s = "0" + s
		}
		return s
	}
	for _, base := range bases() {
		for bits := 1; bits < 1<<width; bits++ {
			s := setOf(base, bits)
			var parts []string
			for _, r := range s {
				part := hex(r.Lo)
				if r.Lo != r.Hi {
					part += "-" + hex(r.Hi)
				}
				parts = append(parts, part)
			}
			want := strings.Join(parts, ",")
			if got := ranges.Print(s); got != want {
				t.Fatalf("Print(%x): %s, not %s", s, got, want)
			}
			got, err := ranges.Parse(want)
			equal(t, "Parse", got, s)
			if err != api.OK {
				t.Fatal(want, err)
			}
		}
	}
}

func TestNeitherInOneNorInTheOther(t *testing.T) { // P2.4
	for x := range 1 << width {
		for y := range 1 << width {
			a, b := setOf(0x60, x), setOf(0x60, y)
			if !ranges.Same(ranges.Not(ranges.Union(a, b)), ranges.Cut(ranges.Not(a), ranges.Not(b))) {
				t.Fatalf("%x and %x", a, b)
			}
		}
	}
}

func TestArgumentsAreLeftAlone(t *testing.T) { // rule 4
	unsorted := []ranges.Range{{Lo: 9, Hi: 9}, {Lo: 1, Hi: 2}, {Lo: 3, Hi: 4}, {Lo: 7, Hi: 7}}
	given := slices.Clone(unsorted)
	made, _ := ranges.Make(given[:3]...)
	if !slices.Equal(given, unsorted) {
		t.Error("Make changed its argument", given)
	}
	made[0].Lo = 0
	if !slices.Equal(given, unsorted) {
		t.Error("Make's result is its argument")
	}
	rising := []ranges.Range{{Lo: 1, Hi: 2}, {Lo: 4, Hi: 5}, {Lo: 0x61, Hi: 0x63}}
	held := slices.Clone(rising)
	s := ranges.Set(held[:2])
	all := ranges.Not(nil)
	for _, got := range []ranges.Set{ranges.Union(s), ranges.Union(s, nil), ranges.Cut(s, all), ranges.Minus(s, nil), ranges.Not(ranges.Not(s))} {
		equal(t, "the same set", got, rising[:2])
		got[0].Lo = 0
		_ = append(got, ranges.Range{})
	}
	if !slices.Equal(held, rising) {
		t.Error("a result is an argument, or lies behind one", held)
	}
}
