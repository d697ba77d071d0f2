package prop_test

import (
	"math"
	"slices"
	"strings"
	"testing"

	"virgule/api"
	"virgule/prop"
	"virgule/ranges"
	"virgule/trie"
)

const numbers = api.MaxRune + 1

// class is a class as the chapter lists it; Other, LV and LVT are told by a rule instead of ranges.
type class struct {
	number int
	name   string
	text   string
}

func classes() []class {
	return []class{
		{0, "Other", ""},
		{1, "CR", "000d"},
		{2, "LF", "000a"},
		{3, "Newline", "000b-000c,0085,2028-2029"},
		{4, "Control", "0000-0008,000e-001f,007f-0084,0086-009f"},
		{5, "Extend", "0300-036f,0483-0489,0591-05bd,064b-065f,093c,0941-0948,094d,200c,20d0-20f0,302a-302f,3099-309a,fe00-fe0f,fe20-fe2f,1f3fb-1f3ff,e0020-e007f,e0100-e01ef"},
		{6, "ZWJ", "200d"},
		{7, "Format", "00ad,200e-200f,202a-202e,2060-2064,feff"},
		{8, "Regional", "1f1e6-1f1ff"},
		{9, "Prepend", "0600-0605,06dd"},
		{10, "Spacing", "0903,093e-0940,0949-094c"},
		{11, "L", "1100-115f,a960-a97c"},
		{12, "V", "1160-11a7,d7b0-d7c6"},
		{13, "T", "11a8-11ff,d7cb-d7fb"},
		{14, "LV", ""},
		{15, "LVT", ""},
		{16, "Pict", "00a9,00ae,231a-231b,23e9-23f3,2600-27bf,1f300-1f3fa,1f400-1f64f,1f680-1f6ff,1f900-1f9ff"},
		{17, "Upper", "0041-005a,00c0-00d6,00d8-00de,0391-03a1,03a3-03ab,0400-042f,ff21-ff3a"},
		{18, "Lower", "0061-007a,00aa,00b5,00ba,00df-00f6,00f8-00ff,03ac-03ce,0430-045f,ff41-ff5a"},
		{19, "Letter", "05d0-05ea,0620-064a,0904-0939"},
		{20, "Katakana", "30a1-30fa,30fc-30ff,31f0-31ff,ff66-ff9d"},
		{21, "Ideograph", "3041-3096,3400-4dbf,4e00-9fff,f900-faff,20000-2fffd"},
		{22, "Digit", "0030-0039,0660-0669,0966-096f,ff10-ff19"},
		{23, "MidLetter", "003a,00b7"},
		{24, "MidNum", "002c,003b,2044"},
		{25, "Dot", "002e,2024,ff0e"},
		{26, "Apostrophe", "0027,2019"},
		{27, "Quote", "0022,2018,201c-201d"},
		{28, "Joiner", "005f,203f-2040"},
		{29, "Space", "0009,0020,1680,2000-2006,2008-200a,205f,3000"},
		{30, "Term", "0021,003f,0964-0965,203c-203d,3002,ff01,ff1f"},
		{31, "Open", "0028,005b,007b,00ab,3008,300a,300c,ff08"},
		{32, "Close", "0029,005d,007d,00bb,3001,3009,300b,300d,ff09,ff0c"},
		{33, "Hyphen", "002d,2010,2013-2014"},
		{34, "Glue", "00a0,2007,2011,202f"},
		{35, "Gap", "200b"},
	}
}

// listed are the ranges of a class, in the order in which the chapter has them.
func listed(t *testing.T, c class) ranges.Set {
	t.Helper()
	if c.text == "" {
		return nil
	}
	s, err := ranges.Parse(c.text)
	if err != api.OK {
		t.Fatal(c, err)
	}
	return s
}

// wanted is the class of each number, by the chapter.
func wanted(t *testing.T) []int {
	t.Helper()
	out := make([]int, numbers)
	for _, c := range classes() {
		for _, x := range listed(t, c) {
			for r := x.Lo; r <= x.Hi; r++ {
				if out[r] != 0 {
					t.Fatalf("%x is in two classes", r)
				}
				out[r] = c.number
			}
		}
	}
	for r := 0xac00; r <= 0xd7a3; r++ {
		out[r] = 15
		if (r-0xac00)%28 == 0 {
			out[r] = 14
		}
	}
	return out
}

func outside() []rune {
	return []rune{-1, -0x41, 0x110000, 0x110041, math.MinInt32, math.MaxInt32}
}

func noClasses() []int {
	return []int{-1, -36, api.Classes, 37, 255, 256, math.MinInt, math.MaxInt}
}

func TestExamples(t *testing.T) {
	if prop.Class(0x41) != 17 || prop.Name(17) != "Upper" {
		t.Error("41")
	}
	if prop.Class(0xac00) != 14 || prop.Name(14) != "LV" || prop.Class(0xac01) != 15 || prop.Name(15) != "LVT" {
		t.Error("ac00, ac01")
	}
}

func TestClass(t *testing.T) { // P4.1
	for r, want := range wanted(t) {
		if got := prop.Class(rune(r)); got != want {
			t.Fatalf("Class(%x): %d, not %d", r, got, want)
		}
	}
	for _, r := range outside() {
		if got := prop.Class(r); got != 0 {
			t.Errorf("Class(%x): %d", r, got)
		}
	}
}

// P4.1: the first and the last number of each row of each class, and the numbers beside them.
func TestClassAtRowsEnds(t *testing.T) {
	want := wanted(t)
	for _, c := range classes() {
		for _, x := range listed(t, c) {
			if prop.Class(x.Lo) != c.number || prop.Class(x.Hi) != c.number {
				t.Errorf("%s: %x", c.name, x)
			}
			for _, r := range []rune{x.Lo - 1, x.Hi + 1} {
				if r >= 0 && prop.Class(r) != want[r] {
					t.Errorf("beside %s: %x", c.name, r)
				}
			}
		}
	}
	for r, want := range map[rune]int{
		0xabff: 0, 0xac00: 14, 0xac01: 15, 0xac1b: 15, 0xac1c: 14, 0xac1d: 15, 0xd787: 15, 0xd788: 14, 0xd789: 15, 0xd7a3: 15, 0xd7a4: 0,
	} {
		if got := prop.Class(r); got != want {
			t.Errorf("Class(%x): %d, not %d", r, got, want)
		}
	}
}

func TestNames(t *testing.T) { // P4.1
	all := classes()
	if len(all) != api.Classes {
		t.Fatal(len(all))
	}
	for i, c := range all {
		if c.number != i || prop.Name(i) != c.name {
			t.Error("Name", i, prop.Name(i))
		}
		if n, ok := prop.Number(c.name); n != i || !ok {
			t.Error("Number", c.name, n, ok)
		}
		for _, s := range []string{strings.ToLower(c.name), c.name + " ", " " + c.name, c.name + c.name, c.name + "\x00"} {
			isNoName(t, s)
		}
	}
	for _, n := range noClasses() {
		if prop.Name(n) != "" {
			t.Error("Name", n, prop.Name(n))
		}
	}
	for _, s := range []string{"", "0", "17", "Uppe", "UPPER", "ETX", "StartID", "ED", "\xff", "Dot,"} {
		isNoName(t, s)
	}
}

func isNoName(t *testing.T, s string) {
	t.Helper()
	if n, ok := prop.Number(s); n != 0 || ok {
		t.Errorf("Number(%q): %d %t", s, n, ok)
	}
}

// P4.1: the constants are the numbers of the names.
func TestConstants(t *testing.T) {
	for i, n := range []int{
		prop.Other, prop.CR, prop.LF, prop.Newline, prop.Control, prop.Extend, prop.ZWJ, prop.Format, prop.Regional,
		prop.Prepend, prop.Spacing, prop.L, prop.V, prop.T, prop.LV, prop.LVT, prop.Pict, prop.Upper, prop.Lower,
		prop.Letter, prop.Katakana, prop.Ideograph, prop.Digit, prop.MidLetter, prop.MidNum, prop.Dot, prop.Apostrophe,
		prop.Quote, prop.Joiner, prop.Space, prop.Term, prop.Open, prop.Close, prop.Hyphen, prop.Glue, prop.Gap,
	} {
		if i != n {
			t.Error("constant", i, n)
		}
	}
}

func TestSet(t *testing.T) { // P4.2
	sets := make([]ranges.Set, api.Classes)
	for r, c := range wanted(t) {
		if s := sets[c]; len(s) > 0 && s[len(s)-1].Hi == rune(r-1) {
			s[len(s)-1].Hi++
		} else {
			sets[c] = append(s, ranges.Range{Lo: rune(r), Hi: rune(r)})
		}
	}
	for c, want := range sets {
		if got := prop.Set(c); !ranges.Right(got) || !slices.Equal(got, want) {
			t.Errorf("Set(%d): %x, not %x", c, got, want)
		}
	}
	for _, c := range noClasses() {
		if got := prop.Set(c); len(got) != 0 {
			t.Error("Set", c, got)
		}
	}
}

func TestTrie(t *testing.T) { // P4.2
	x := prop.Trie()
	if x == nil {
		t.Fatal("no trie")
	}
	for r, want := range wanted(t) {
		if got := x.Get(rune(r)); got != want {
			t.Fatalf("Get(%x): %d, not %d", r, got, want)
		}
	}
	for _, r := range outside() {
		if got := x.Get(r); got != prop.Class(r) {
			t.Errorf("Get(%x): %d", r, got)
		}
	}
	if !trie.Same(x, prop.Trie()) || x == prop.Trie() {
		t.Error("two tries")
	}
	if c := x.Classes(); len(c) != api.Classes {
		t.Error("Classes", c)
	}
}

// P4.3: the classes' sets have each number once.
func TestSetsShareAllNumbers(t *testing.T) {
	var all ranges.Set
	count := 0
	for c := range api.Classes {
		s := prop.Set(c)
		if len(ranges.Cut(all, s)) != 0 {
			t.Error("numbers of two classes", c)
		}
		all = ranges.Union(all, s)
		count += ranges.Count(s)
	}
	if count != numbers || len(ranges.Not(all)) != 0 {
		t.Error(count, all)
	}
}

// Rule 4: what a call answers is new memory.
func TestResultsAreNew(t *testing.T) {
	s := prop.Set(prop.Dot)
	s[0] = ranges.Range{Lo: 0, Hi: 9}
	if got := ranges.Print(prop.Set(prop.Dot)); got != "002e,2024,ff0e" || prop.Class('.') != prop.Dot {
		t.Error(got)
	}
}
