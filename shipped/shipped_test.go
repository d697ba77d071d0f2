package shipped_test

import (
	"math"
	"math/rand"
	"slices"
	"strings"
	"sync"
	"testing"

	"virgule/api"
	"virgule/decide"
	"virgule/prop"
	"virgule/rule"
	"virgule/shipped"
	"virgule/table"
)

// outside is numbers that are no modes.
func outside() []api.Mode {
	return []api.Mode{-1, -2, -4, 4, 5, 8, 255, 256, 1 << 32, math.MinInt, math.MaxInt}
}

func TestTexts(t *testing.T) {
	for i, want := range modes() {
		m := api.Mode(i)
		if got := shipped.Text(m); got != strings.Join(want.lines, "\n")+"\n" {
			t.Errorf("Text of %s: %q", want.name, got)
		}
		if got := shipped.Name(m); got != want.name {
			t.Errorf("Name(%d): %q", m, got)
		}
		if got, ok := shipped.Number(want.name); got != m || !ok {
			t.Errorf("Number of %s: %d, %t", want.name, got, ok)
		}
	}
	for _, m := range outside() {
		if shipped.Text(m) != "" || shipped.Name(m) != "" {
			t.Errorf("%d: %q, %q", m, shipped.Text(m), shipped.Name(m))
		}
	}
	for _, name := range []string{"", " ", "Word", "WORD", "word ", " word", "words", "wor", "word\n", "word\x00", "0", "1", "Grapheme", "graphem", "lines", "sentence\xff"} {
		if got, ok := shipped.Number(name); got != 0 || ok {
			t.Errorf("Number(%q): %d, %t", name, got, ok)
		}
	}
}

// TestCompile has that all texts can be parsed and compiled.
func TestCompile(t *testing.T) {
	for i, want := range modes() {
		s := shipped.Text(api.Mode(i))
		meant, at, err := rule.Parse(s)
		if err != api.OK || at != 0 || len(meant.Rules) == 0 {
			t.Fatalf("%s: Parse: %d, %d", want.name, at, err)
		}
		if x, err := table.Compile(meant); err != api.OK || !table.Right(x) || x.Rules != len(meant.Rules) {
			t.Errorf("%s: Compile: %d", want.name, err)
		}
	}
}

// tableOf is a mode's table on a shelf.
func tableOf(t *testing.T, s *shipped.Shelf, m api.Mode) table.Table {
	t.Helper()
	x, ok := s.Table(m)
	if !ok {
		t.Fatalf("no table of %d", m)
	}
	return x
}

// isMissing tells whether a shelf answers that it has no table of a number.
func isMissing(s *shipped.Shelf, m api.Mode) bool {
	x, ok := s.Table(m)
	return !ok && table.Same(x, table.Table{})
}

func TestTables(t *testing.T) {
	one, two := shipped.New(), shipped.New()
	for i, want := range modes() {
		m := api.Mode(i)
		x := tableOf(t, one, m)
		y, _, _ := table.Read(strings.Join(want.lines, "\n"))
		if !table.Right(x) || !table.Same(x, y) {
			t.Errorf("%s: %+v", want.name, x)
		}
		again := tableOf(t, one, m)
		if !table.Same(again, x) || !table.Same(tableOf(t, two, m), x) {
			t.Errorf("%s, again", want.name)
		}
		if &again.Groups[0] != &x.Groups[0] || &again.Left.Next[0] != &x.Left.Next[0] {
			t.Errorf("%s was made again", want.name)
		}
	}
	for _, m := range outside() {
		if !isMissing(one, m) || !isMissing(shipped.New(), m) {
			t.Errorf("a table of %d", m)
		}
	}
}

// TestOrder asks shelves in all orders: no place has another one's table.
func TestOrder(t *testing.T) {
	want := shipped.New()
	for order := range 256 {
		s := shipped.New()
		for shift := 0; shift < 8; shift += 2 {
			m := api.Mode(order >> shift & 3)
			if !isMissing(s, m+4) || !isMissing(s, m-4) || !table.Same(tableOf(t, s, m), tableOf(t, want, m)) {
				t.Fatalf("%x: %d", order, m)
			}
		}
	}
}

func TestNil(t *testing.T) {
	var none *shipped.Shelf
	for m := api.Mode(-2); m < 7; m++ {
		if !isMissing(none, m) {
			t.Errorf("a table of %d on a nil shelf", m)
		}
	}
	if shipped.New() == nil || shipped.New() == shipped.New() {
		t.Error("New")
	}
}

// TestTogether asks a shelf from several goroutines at once.
func TestTogether(t *testing.T) {
	s := shipped.New()
	var got [32]table.Table
	var all sync.WaitGroup
	for i := range got {
		all.Go(func() { got[i], _ = s.Table(api.Mode(i % 4)) })
	}
	all.Wait()
	for i := range got {
		if !table.Same(got[i], tableOf(t, shipped.New(), api.Mode(i%4))) {
			t.Errorf("%d: %+v", i, got[i])
		}
	}
}

// classes is the classes of a text's scalars.
func classes(s string) []int {
	var out []int
	for _, r := range s {
		out = append(out, prop.Class(r))
	}
	return out
}

// pieces is a text's pieces by a table, with | between them.
func pieces(x table.Table, s string) string {
	var out strings.Builder
	breaks := x.Breaks(classes(s))
	for i, r := range []rune(s) {
		if breaks[i] && i > 0 {
			out.WriteByte('|')
		}
		out.WriteRune(r)
	}
	return out.String()
}

// holdPieces holds pieces by a mode's table against those that are asked for, with | between them.
func holdPieces(t *testing.T, m api.Mode, all ...string) {
	t.Helper()
	x := tableOf(t, shipped.New(), m)
	for _, want := range all {
		if got := pieces(x, strings.ReplaceAll(want, "|", "")); got != want {
			t.Errorf("%s: %+q, not %+q", shipped.Name(m), got, want)
		}
	}
}

func TestGraphemes(t *testing.T) {
	holdPieces(t, api.Grapheme,
		"", "a", "a|b", "e\u0301|x", "\u0301\u0301|a", "a\u00ad|b", "a|\u200b|\u0301",
		"\r\n|\n|\r", "\r|\r\n|\u0085|\u0301", "a|\r|\u0301", "\n|\u200d",
		"\u1100\u1161\u11a8|\u1100", "가\u11a8|가|각\u11a8|\u1161",
		"\u0915\u093f|\u0915", "\u0600a|b", "\u0600|\n",
		"😀\u200d😀|😀", "😀\u0301\u200d😀", "a\u200d|😀", "👍🏽|👍",
		"🇦🇧|🇨🇩|🇪", "a|🇦🇧|🇨", "🇦|\n|🇧🇨",
	)
}

func TestWords(t *testing.T) {
	holdPieces(t, api.Word,
		"", "one| |two", "a|  |b", "a|\u3000|b", "a\u0301b", "a'\u0301b", "a\u200d|b", "a\u00adb",
		"don't", "it|'", "'|a", "a.b|.| |c", "a:b", "a|,|b",
		"1,2.3|,| |4", "1|:|2", "a1b2", "1|,|a",
		"\n|\u0301|a", "a|\r\n|b", "a|\r|\r",
		"カタ_カ|あ|い", "a_b|!", "_", "_1_",
		"🇦🇧|🇨|a", "a|🇦🇧|🇨🇩", "😀\u200d😀|😀",
	)
}

func TestSentences(t *testing.T) {
	holdPieces(t, api.Sentence,
		"", "no end", "One. |Two.", "a. b", "a.\u0301 |B", "a., b", "a.|あ",
		"3.4", "A.B", "U.S. |Go", "a.1", "3. |A",
		"one? |two", "one?|Two", "one.) |Two", "one.  |Two", "a.' |B", "a!?|B", "a! |1",
		"a\n|b", "a\r\n|b", "a.\n|b", "\n|\u0301a",
	)
}

func TestLines(t *testing.T) {
	holdPieces(t, api.Line,
		"", "a |b", "a  |b", "a |\u0301|b", "a\u00a0b", "a \u00a0b",
		"a\n|b", "a\r\n|b", "a\n|\u0301|b",
		"(a) |b", "( a", "a(b)c", "a!", "a, |b", "\"a\"", "\" |a",
		"a-|b", "-1", "a- |1", "1.5",
		"a\u200b|b", "a\u200b  |b", "あ|い。|う", "カタ", "🇦🇧|🇨🇩",
		"\u1100\u1161|\u1100", "각\u11a8|가", "a |\u0301",
	)
}

// TestExamples has the chapter's example, and a few lists of classes.
func TestExamples(t *testing.T) {
	for _, x := range []struct {
		m    api.Mode
		ids  []int
		want []bool
	}{
		{api.Line, []int{prop.Lower, prop.Space, prop.Lower}, []bool{true, false, true, true}},
		{api.Grapheme, nil, []bool{true}},
		{api.Word, []int{prop.Extend}, []bool{true, true}},
		{api.Sentence, []int{prop.Other, prop.Other, prop.Term, prop.Other}, []bool{true, false, false, true, true}},
		{api.Line, []int{prop.Other, prop.Ideograph, prop.Ideograph}, []bool{true, true, true, true}},
	} {
		if got := tableOf(t, shipped.New(), x.m).Breaks(x.ids); !slices.Equal(got, x.want) {
			t.Errorf("%s, %d: %t, not %t", shipped.Name(x.m), x.ids, got, x.want)
		}
	}
}

// TestDecide holds the tables against the rules of the texts, by definition.
func TestDecide(t *testing.T) {
	rng := rand.New(rand.NewSource(1))
	s := shipped.New()
	for i, mode := range modes() {
		meant, _, _ := rule.Parse(strings.Join(mode.lines, "\n"))
		x := tableOf(t, s, api.Mode(i))
		hold := func(ids []int) {
			if got, want := x.Breaks(ids), decide.Breaks(meant, ids); !slices.Equal(got, want) {
				t.Fatalf("%s: %d: %t, not %t", mode.name, ids, got, want)
			}
		}
		for pair := range api.Classes * api.Classes {
			hold([]int{pair / api.Classes, pair % api.Classes})
		}
		for range 1500 {
			few := rng.Perm(api.Classes)[:1+rng.Intn(5)]
			ids := make([]int, rng.Intn(12))
			for i := range ids {
				ids[i] = few[rng.Intn(len(few))]
			}
			hold(ids)
		}
	}
}
