package overlay_test

import (
	"math"
	"math/rand"
	"slices"
	"strings"
	"testing"
	"time"

	"virgule/api"
	"virgule/extract"
	"virgule/overlay"
	"virgule/prop"
)

const (
	grapheme = api.Grapheme
	word     = api.Word
	sentence = api.Sentence
	line     = api.Line
)

func TestConstants(t *testing.T) { // the chapter's numbers
	if overlay.None != -1 || api.Edge != 0 || api.ByRule != 1 || api.Forced != 2 || api.Chance != 3 {
		t.Error(overlay.None, api.Edge, api.ByRule, api.Forced, api.Chance)
	}
}

func TestPairs(t *testing.T) { // P25.1, P25.2, P25.3, for all flags of two items
	some := []rune{'a', ' ', '\r', '\n', '\t', 0x0b, 0x85, 0xad, 0x2028, 0xfffd, -1}
	for _, r := range some {
		for _, s := range some {
			for flags := range 1 << 8 {
				l := []extract.Item{flagged(r, flags&15), flagged(s, flags>>4)}
				hold(t, l, ruled(3, 0))
				hold(t, l, ruled(3, 2))
			}
		}
	}
}

func TestTriples(t *testing.T) { // P25.1, P25.2, for all flags of three items
	for flags := range 1 << 12 {
		l := []extract.Item{flagged(0xad, flags&15), flagged('a', flags>>4&15), flagged('\n', flags>>8)}
		for bits := range 1 << 4 {
			hold(t, l, ruled(4, bits))
		}
	}
}

// item is an item with its flags as letters: f, c, n, p.
func item(r rune, flags string) extract.Item {
	has := func(flag string) bool { return strings.Contains(flags, flag) }
	return extract.Item{R: r, Forced: has("f"), Chance: has("c"), NoBreak: has("n"), Pre: has("p")}
}

func TestBetween(t *testing.T) { // P25.1, P25.3, by hand: without a rule, and with one, for line and for the other modes
	for _, x := range []struct {
		a, b                              extract.Item
		line, lineRule, others, otherRule int
	}{
		{item('a', ""), item('b', ""), -1, 1, -1, 1},
		{item('a', ""), item('b', "f"), 2, 2, 2, 2},
		{item('a', "f"), item('b', ""), -1, 1, -1, 1},
		{item('a', "fcnp"), item('b', "fcnp"), 2, 2, 2, 2},
		{item('a', "np"), item('b', "fnp"), 2, 2, 2, 2},
		{item('a', ""), item('b', "c"), 3, 1, -1, 1},
		{item('a', "c"), item('b', ""), -1, 1, -1, 1},
		{item('a', ""), item('b', "fc"), 2, 2, 2, 2},
		{item('a', "n"), item('b', "n"), -1, -1, -1, 1},
		{item('a', "n"), item('b', "nc"), -1, -1, -1, 1},
		{item(0xad, "n"), item('b', "n"), -1, -1, -1, 1},
		{item('\n', "n"), item('b', "n"), -1, -1, -1, 1},
		{item('\n', "np"), item('b', "np"), -1, -1, -1, 1},
		{item('a', "n"), item('b', ""), -1, 1, -1, 1},
		{item('a', ""), item('b', "n"), -1, 1, -1, 1},
		{item('a', "n"), item('b', "c"), 3, 1, -1, 1},
		{item('a', "n"), item('b', "p"), -1, 1, -1, 1},
		{item('a', "p"), item('b', "n"), -1, 1, -1, 1},
		{item('a', "p"), item('b', "nc"), 3, 1, -1, 1},
		{item('a', "p"), item('b', "p"), -1, -1, -1, 1},
		{item(' ', "p"), item('b', "pc"), -1, -1, -1, 1},
		{item(0xad, "p"), item('b', "p"), -1, -1, -1, 1},
		{item('a', "p"), item('b', ""), -1, 1, -1, 1},
		{item('a', ""), item('b', "p"), -1, 1, -1, 1},
		{item('a', "p"), item('\n', "p"), -1, -1, -1, 1},
		{item('\n', "p"), item('b', "p"), -1, 1, -1, 1},
		{item('\r', "p"), item('\n', "p"), -1, 1, -1, 1},
		{item('\f', "p"), item('b', "p"), -1, 1, -1, 1},
		{item('\n', "p"), item('b', "pc"), 3, 1, -1, 1},
		{item('\n', "p"), item('b', "pf"), 2, 2, 2, 2},
		{item('\n', ""), item('b', ""), -1, 1, -1, 1},
		{item(0xad, ""), item('b', ""), 3, 1, -1, 1},
		{item(0xad, ""), item('b', "c"), 3, 1, -1, 1},
		{item(0xad, ""), item('b', "f"), 2, 2, 2, 2},
		{item(0xad, "n"), item('b', ""), 3, 1, -1, 1},
		{item('a', ""), item(0xad, ""), -1, 1, -1, 1},
		{item(0x200b, ""), item('b', ""), -1, 1, -1, 1},
		{item(0x2060, ""), item('b', ""), -1, 1, -1, 1},
		{item('-', ""), item('b', ""), -1, 1, -1, 1},
		{item(-1, "p"), item(0x110000, "p"), -1, -1, -1, 1},
	} {
		for _, m := range modes() {
			still, rule := x.others, x.otherRule
			if m == line {
				still, rule = x.line, x.lineRule
			}
			if got := overlay.Between(m, x.a, x.b, false); got != still {
				t.Errorf("mode %d: %+v, %+v: %d, not %d", m, x.a, x.b, got, still)
			}
			if got := overlay.Between(m, x.a, x.b, true); got != rule {
				t.Errorf("mode %d: %+v, %+v and a rule: %d, not %d", m, x.a, x.b, got, rule)
			}
		}
	}
}

func TestEachScalar(t *testing.T) { // P25.1, P25.3: behind which scalars lines are broken
	ends := []rune{0x0a, 0x0b, 0x0c, 0x0d, 0x85, 0x2028, 0x2029}
	for r := rune(-2); r <= api.MaxRune+2; r++ {
		want := -1
		if slices.Contains(ends, r) {
			want = 1
		}
		if got := overlay.Between(line, item(r, "p"), item('a', "p"), true); got != want {
			t.Fatalf("behind %x in pre: %d", r, got)
		}
		want = -1
		if r == 0xad {
			want = 3
		}
		if got := overlay.Between(line, item(r, ""), item('a', ""), false); got != want {
			t.Fatalf("behind %x: %d", r, got)
		}
		if got := overlay.Between(line, item('a', ""), item(r, ""), false); got != -1 {
			t.Fatalf("ahead of %x: %d", r, got)
		}
		if got := overlay.Between(line, item('a', "p"), item(r, "p"), true); got != -1 {
			t.Fatalf("ahead of %x in pre: %d", r, got)
		}
	}
}

func TestPlacesDontMatter(t *testing.T) { // P25.1: where items stand says nothing
	for _, at := range []int{math.MinInt, -1, 0, 1, 5, math.MaxInt} {
		for _, size := range []int{math.MinInt, -1, 0, 1, 2, 6, math.MaxInt} {
			a, b := item(0xad, ""), item('b', "")
			a.At, a.Size = at, size
			if got := overlay.Between(line, a, b, false); got != 3 {
				t.Error(at, size, got)
			}
			a, b = item('a', ""), item('b', "")
			b.At, b.Size = at, size
			if got := overlay.Between(line, a, b, false); got != -1 {
				t.Error(at, size, got)
			}
			if got := overlay.Classes(a, b); !slices.Equal(got, []int{18, 18}) {
				t.Error(at, size, got)
			}
		}
	}
}

// told holds the decisions of a list against those written out by hand.
func told(t *testing.T, m api.Mode, l []extract.Item, rules []bool, want ...int) {
	t.Helper()
	if got := overlay.Breaks(m, l, rules); !slices.Equal(got, want) {
		t.Errorf("mode %d: %+v, %v: %v, not %v", m, l, rules, got, want)
	}
}

func TestBreaks(t *testing.T) { // P25.1, by hand
	no, yes := false, true
	for _, m := range modes() {
		told(t, m, nil, []bool{no}, 0)
		told(t, m, nil, []bool{yes}, 0)
		told(t, m, []extract.Item{}, []bool{yes}, 0)
		for _, flags := range []string{"", "f", "c", "n", "p", "fcnp"} {
			told(t, m, []extract.Item{item('a', flags)}, []bool{no, no}, 0, 0)
			told(t, m, []extract.Item{item('a', flags)}, []bool{yes, yes}, 0, 0)
			told(t, m, []extract.Item{item(0xad, flags)}, []bool{no, yes}, 0, 0)
		}
	}
	l := []extract.Item{item('a', "f"), item('b', ""), item(' ', "c"), item('c', "f"), item('d', "fn"), item('e', "n"), item(0xad, "nc"), item('f', "")}
	told(t, word, l, []bool{no, no, no, no, no, no, no, no, no}, 0, -1, -1, 2, 2, -1, -1, -1, 0)
	told(t, word, l, []bool{yes, yes, yes, yes, yes, yes, yes, yes, yes}, 0, 1, 1, 2, 2, 1, 1, 1, 0)
	told(t, line, l, []bool{no, no, no, no, no, no, no, no, no}, 0, -1, 3, 2, 2, -1, -1, 3, 0)
	told(t, line, l, []bool{yes, yes, yes, yes, yes, yes, yes, yes, yes}, 0, 1, 1, 2, 2, -1, -1, 1, 0)
	told(t, sentence, l, []bool{yes, yes, no, no, no, no, yes, no, no}, 0, 1, -1, 2, 2, -1, 1, -1, 0)
	told(t, grapheme, l, []bool{no, no, yes, no, yes, no, no, yes, no}, 0, -1, 1, 2, 2, -1, -1, 1, 0)
	told(t, line, l, []bool{no, yes, no, no, no, yes, no, yes, no}, 0, 1, 3, 2, 2, -1, -1, 1, 0)
}

func TestWrongRules(t *testing.T) { // P25.1: one more than there are items, or none
	for _, m := range modes() {
		for items := range 5 {
			l := slices.Repeat([]extract.Item{item('a', "f")}, items)
			for rules := range 8 {
				want := 0
				if rules == items+1 {
					want = items + 1
				}
				if got := overlay.Breaks(m, l, make([]bool, rules)); len(got) != want {
					t.Errorf("mode %d, %d items, %d rules: %v", m, items, rules, got)
				}
			}
		}
	}
	if got := overlay.Breaks(word, nil, nil); len(got) != 0 {
		t.Error(got)
	}
}

func TestClasses(t *testing.T) { // P25.2
	if got := overlay.Classes(); len(got) != 0 {
		t.Error(got)
	}
	l := []extract.Item{item('a', ""), item('1', "f"), item(' ', "cnp"), item('\r', "p"), item('\n', ""), item(0x2028, ""), item(0xad, "n"), item(0xac00, ""), item(0xac01, ""), item(0x200b, ""), item(0, ""), item(0xfffd, ""), item(-1, ""), item(0x110041, ""), item(math.MinInt32, ""), item(math.MaxInt32, "")}
	want := []int{18, 22, 29, 1, 2, 3, 7, 14, 15, 35, 4, 0, 0, 0, 0, 0}
	if got := overlay.Classes(l...); !slices.Equal(got, want) {
		t.Errorf("%v, not %v", got, want)
	}
	for r := rune(-2); r <= api.MaxRune+2; r++ {
		if got := overlay.Classes(extract.Item{R: r}); len(got) != 1 || got[0] != prop.Class(r) {
			t.Fatalf("%x: %v", r, got)
		}
	}
}

// marked holds the decisions between the items of marked text against those written out by hand; rule says whether rules break everywhere.
func marked(t *testing.T, m api.Mode, s string, rule bool, want ...int) {
	t.Helper()
	l := extract.All([]byte(s))
	told(t, m, l, slices.Repeat([]bool{rule}, len(l)+1), want...)
}

func TestMarked(t *testing.T) { // P25.1, P25.3, by hand
	for _, m := range []api.Mode{grapheme, word, sentence, line} {
		marked(t, m, "", true, 0)
		marked(t, m, "<br>", true, 0)
		marked(t, m, "<p>a", false, 0, 0)
		marked(t, m, "a<br>b", false, 0, 2, 0)
		marked(t, m, "a</p>b<hr/>c", true, 0, 2, 2, 0)
		marked(t, m, "a<br><br>b", false, 0, 2, 0)
		marked(t, m, "<nobr>a<p>b", false, 0, 2, 0)
		marked(t, m, "a<b>b</b>&lt;<!-- -->c", false, 0, -1, -1, -1, 0)
		marked(t, m, "a<b>b</b>&lt;<!-- -->c", true, 0, 1, 1, 1, 0)
		marked(t, m, "a<title><br></title>b", false, 0, -1, 0)
	}
	for _, m := range []api.Mode{grapheme, word, sentence} {
		marked(t, m, "a<wbr>b\u00adc&#173;d", false, 0, -1, -1, -1, -1, -1, 0)
		marked(t, m, "<nobr>ab</nobr><pre>cd", true, 0, 1, 2, 1, 0)
	}
	marked(t, line, "a<wbr>b\u00adc&#173;d", false, 0, 3, -1, 3, -1, 3, 0)
	marked(t, line, "a<wbr>b\u00adc&#173;d", true, 0, 1, 1, 1, 1, 1, 0)
	marked(t, line, "a<nobr>b c</nobr> d", true, 0, 1, -1, -1, 1, 1, 0)
	marked(t, line, "<nobr>a<wbr>b\u00adc</nobr><wbr>d", false, 0, -1, -1, -1, 3, 0)
	marked(t, line, "<nobr>a</nobr><nobr>b</nobr>", true, 0, -1, 0)
	marked(t, line, "<pre>a b\r\nc\u2028d</pre>e", true, 0, -1, -1, -1, 1, 1, -1, 1, 2, 0)
	marked(t, line, "<pre>a\n<wbr>b", false, 0, -1, 3, 0)
	marked(t, line, "\u00ad<br>b\u00ad", false, 0, 2, -1, 0)
}

func TestOfMarkup(t *testing.T) { // P25.1, P25.2, P25.3, for many tokens behind one another
	some := []string{"a", " ", "1", "\n", "\r\n", "\u00ad", "&#173;", "\u2028", "\xff", "<b>", "<br>", "<p>", "</p>", "<wbr>", "<nobr>", "</nobr>", "<pre>", "</pre>", "<title>", "</title>", "<!--x-->", "&lt;"}
	rng := rand.New(rand.NewSource(1))
	for range 5000 {
		var s strings.Builder
		for range rng.Intn(16) {
			s.WriteString(some[rng.Intn(len(some))])
		}
		l := extract.All([]byte(s.String()))
		hold(t, l, ruled(len(l)+1, rng.Int()))
	}
}

func TestOfText(t *testing.T) { // P25.3: without markup the rules decide, except for lines behind ad
	rng := rand.New(rand.NewSource(2))
	some := []rune{'a', ' ', '\n', '\r', 0xad, 0x85, 0x200b, 0x301, 0x4e00}
	for range 2000 {
		var l []extract.Item
		for range rng.Intn(12) {
			l = append(l, extract.Item{R: some[rng.Intn(len(some))], At: len(l), Size: 1})
		}
		rules := ruled(len(l)+1, rng.Int())
		for _, m := range modes() {
			for i, got := range overlay.Breaks(m, l, rules) {
				switch {
				case i == 0 || i == len(l):
					if got != 0 {
						t.Fatal(m, l, rules, i, got)
					}
				case rules[i]:
					if got != 1 {
						t.Fatal(m, l, rules, i, got)
					}
				case m == line && l[i-1].R == 0xad:
					if got != 3 {
						t.Fatal(m, l, rules, i, got)
					}
				case got != -1:
					t.Fatal(m, l, rules, i, got)
				}
			}
		}
	}
}

func TestMemory(t *testing.T) { // arguments aren't kept or changed, and answers are new
	l := []extract.Item{item('a', ""), item(0xad, "c"), item('b', ""), item('X', "f")}
	rules := []bool{true, false, false, true, true}
	wantItems, wantRules := slices.Clone(l), slices.Clone(rules)
	for range 2 { // the second time behind changes of what was answered the first time
		breaks, classes := overlay.Breaks(line, l[:3], rules[:4]), overlay.Classes(l[:3]...)
		if !slices.Equal(breaks, []int{0, 3, 3, 0}) || !slices.Equal(classes, []int{18, 7, 18}) {
			t.Fatal(breaks, classes)
		}
		if !slices.Equal(l, wantItems) || !slices.Equal(rules, wantRules) {
			t.Fatal(l, rules)
		}
		edge := overlay.Breaks(line, nil, rules[:1])
		for _, out := range [][]int{breaks, classes, edge} {
			out = out[:cap(out)]
			for i := range out {
				out[i] = 99
			}
		}
	}
	breaks := overlay.Breaks(line, l[:3], rules[:4])
	clear(l)
	clear(rules)
	if !slices.Equal(breaks, []int{0, 3, 3, 0}) {
		t.Error(breaks)
	}
}

func TestLong(t *testing.T) { // the time grows with the items alone
	for _, x := range []extract.Item{item('a', ""), item(0xad, ""), item('\n', "p"), item(0x10ffff, "np"), item('b', "fc")} {
		l := slices.Repeat([]extract.Item{x}, 1<<18)
		rules := make([]bool, len(l)+1)
		begun := time.Now()
		breaks, classes := overlay.Breaks(line, l, rules), overlay.Classes(l...)
		if took := time.Since(begun); took > 4*time.Second || len(breaks) != len(rules) || len(classes) != len(l) {
			t.Errorf("%+v again and again took %v", x, took)
		}
	}
}
