package overlay_test

import (
	"math"
	"slices"
	"testing"

	"virgule/api"
	"virgule/extract"
	"virgule/overlay"
	"virgule/prop"
)

// modes is all modes, and numbers that are none, some of which have line's bits.
func modes() []api.Mode {
	return []api.Mode{api.Grapheme, api.Word, api.Sentence, api.Line, -1, -3, -4, 4, 7, 3 + 1<<8, 3 + 1<<16, 3 + 1<<32, math.MinInt, math.MinInt + 3, math.MaxInt}
}

// held tells by the chapter's words whether a line must not be broken between two items.
func held(a, b extract.Item) bool {
	ends := []string{"CR", "LF", "Newline"}
	switch {
	case a.NoBreak && b.NoBreak:
		return true
	case !a.Pre || !b.Pre:
		return false
	}
	return !slices.Contains(ends, prop.Name(prop.Class(a.R)))
}

// offered tells by the chapter's words whether a line may be broken between two items.
func offered(a, b extract.Item) bool {
	return b.Chance || a.R == 0xad
}

// decision is the first line of the chapter's list that applies.
func decision(m api.Mode, a, b extract.Item, rule bool) int {
	for _, line := range []struct {
		applies bool
		is      int
	}{
		{b.Forced, 2},
		{m == 3 && held(a, b), -1},
		{rule, 1},
		{m == 3 && offered(a, b), 3},
	} {
		if line.applies {
			return line.is
		}
	}
	return -1
}

// decisions is what is decided before each item, and after the last one.
func decisions(m api.Mode, l []extract.Item, rules []bool) []int {
	out := make([]int, len(l)+1)
	for i := range l {
		if i > 0 {
			out[i] = decision(m, l[i-1], l[i], rules[i])
		}
	}
	return out
}

// hold holds what is answered of a list in each mode against the model.
func hold(t *testing.T, l []extract.Item, rules []bool) {
	t.Helper()
	for _, m := range modes() {
		got, want := overlay.Breaks(m, l, rules), decisions(m, l, rules)
		if !slices.Equal(got, want) {
			t.Fatalf("mode %d: %+v, %v: %v, not %v", m, l, rules, got, want)
		}
		for i := 1; i < len(l); i++ {
			if one := overlay.Between(m, l[i-1], l[i], rules[i]); one != want[i] {
				t.Fatalf("mode %d: %+v, %v: before %d %d, not %d", m, l, rules, i, one, want[i])
			}
		}
	}
	var classes []int
	for _, x := range l {
		classes = append(classes, prop.Class(x.R))
	}
	if got := overlay.Classes(l...); !slices.Equal(got, classes) {
		t.Fatalf("%+v: classes %v, not %v", l, got, classes)
	}
}

// flagged is an item with the flags of a number's bits.
func flagged(r rune, flags int) extract.Item {
	return extract.Item{R: r, Forced: flags&1 != 0, Chance: flags&2 != 0, NoBreak: flags&4 != 0, Pre: flags&8 != 0}
}

// ruled is a list of rules' breaks by the bits of a number.
func ruled(n, bits int) []bool {
	out := make([]bool, n)
	for i := range out {
		out[i] = bits>>i&1 != 0
	}
	return out
}
