package segment_test

import (
	"math"
	"slices"
	"strings"
	"testing"

	"virgule/api"
	"virgule/decide"
	"virgule/extract"
	"virgule/prop"
	"virgule/rule"
	"virgule/scalar"
	"virgule/segment"
	"virgule/shipped"
	"virgule/token"
)

const (
	grapheme = api.Grapheme
	word     = api.Word
	sentence = api.Sentence
	line     = api.Line
)

// modes is all modes.
func modes() []api.Mode {
	return []api.Mode{grapheme, word, sentence, line}
}

// noModes is numbers that are no modes, some of which have a mode's lowest bits.
func noModes() []api.Mode {
	return []api.Mode{-1, -2, -4, 4, 5, 7, 255, 256, 3 + 1<<8, 1 << 32, 1 + 1<<32, math.MinInt, math.MinInt + 1, math.MaxInt}
}

// judge tells by the chapters' words, without tables, where boundaries are, and asks one tool.
type judge struct {
	tool  *segment.Tool
	rules []rule.Text // of each mode
}

// newJudge is a judge with a new tool.
func newJudge(t *testing.T) *judge {
	t.Helper()
	j := &judge{tool: segment.New()}
	for _, m := range modes() {
		r, _, err := rule.Parse(shipped.Text(m))
		if err != api.OK {
			t.Fatal(m, err)
		}
		j.rules = append(j.rules, r)
	}
	return j
}

// kept tells whether a line must not be broken between two items.
func kept(a, b extract.Item) bool {
	if a.NoBreak && b.NoBreak {
		return true
	}
	ends := []int{prop.CR, prop.LF, prop.Newline}
	return a.Pre && b.Pre && !slices.Contains(ends, prop.Class(a.R))
}

// decided is what is decided between two items: -1, or a kind.
func decided(m api.Mode, a, b extract.Item, rule bool) api.Kind {
	if b.Forced {
		return 2
	}
	if m == line && kept(a, b) {
		return -1
	}
	if rule {
		return 1
	}
	if m == line && (b.Chance || a.R == 0xad) {
		return 3
	}
	return -1
}

// boundaries is the boundaries of some bytes.
func (j *judge) boundaries(m api.Mode, b []byte) []segment.Boundary {
	if len(b) == 0 {
		return []segment.Boundary{{At: 0, Kind: 0}}
	}
	items := extract.All(b)
	var ids []int
	for _, x := range items {
		ids = append(ids, prop.Class(x.R))
	}
	breaks := decide.Breaks(j.rules[m], ids)
	out := []segment.Boundary{{At: 0, Kind: 0}}
	for i := 1; i < len(items); i++ {
		if kind := decided(m, items[i-1], items[i], breaks[i]); kind != -1 {
			out = append(out, segment.Boundary{At: items[i].At, Kind: kind})
		}
	}
	return append(out, segment.Boundary{At: len(b), Kind: 0})
}

// hold holds all that is answered of a text, in each mode, against the chapter's words.
func (j *judge) hold(t *testing.T, s string) {
	t.Helper()
	b := []byte(s)
	for _, m := range modes() {
		want := j.boundaries(m, b)
		got, err := j.tool.All(m, b)
		if err != api.OK || !slices.Equal(got, want) {
			t.Fatalf("%v: %q: %v, %v, not %v", m, s, got, err, want)
		}
		holdPieces(t, j.tool, m, b, want)
	}
	if string(b) != s {
		t.Fatalf("%q became %q", s, b)
	}
}

// holdPieces holds Pieces against all boundaries.
func holdPieces(t *testing.T, x *segment.Tool, m api.Mode, b []byte, all []segment.Boundary) {
	t.Helper()
	got, err := x.Pieces(m, b)
	if err != api.OK || len(got) != len(all)-1 {
		t.Fatalf("%v: %q: %v, %v", m, b, got, err)
	}
	joined := ""
	for i, p := range got {
		if p.From != all[i].At || p.To != all[i+1].At {
			t.Fatalf("%v: %q: %v, %v", m, b, got, all)
		}
		joined += string(b[p.From:p.To])
	}
	if joined != string(b) { // P26.3
		t.Fatalf("%v: %q: %v", m, b, got)
	}
}

// holdAsks holds what is answered of each offset of a text, in each mode, against all boundaries: P26.2.
func (j *judge) holdAsks(t *testing.T, s string) {
	t.Helper()
	b := []byte(s)
	for _, m := range modes() {
		all := j.boundaries(m, b)
		for at := range len(b) + 1 {
			holdAt(t, j.tool, m, b, all, at)
		}
		for _, at := range []int{math.MinInt, -2, -1, len(b) + 1, len(b) + 2, math.MaxInt} {
			holdError(t, j.tool, m, b, at, api.ErrRange)
		}
	}
}

// holdAt holds what is answered of an offset, by going through all boundaries.
func holdAt(t *testing.T, x *segment.Tool, m api.Mode, b []byte, all []segment.Boundary, at int) {
	t.Helper()
	var next, preceding segment.Boundary
	var hasNext, hasPreceding, isOne bool
	for _, y := range all {
		switch {
		case y.At < at:
			preceding, hasPreceding = y, true
		case y.At == at:
			isOne = true
		case !hasNext:
			next, hasNext = y, true
		}
	}
	if y, ok, err := x.Next(m, b, at); y != next || ok != hasNext || err != api.OK {
		t.Fatalf("%v: %q: Next of %d: %v, %v, %v", m, b, at, y, ok, err)
	}
	if y, ok, err := x.Preceding(m, b, at); y != preceding || ok != hasPreceding || err != api.OK {
		t.Fatalf("%v: %q: Preceding of %d: %v, %v, %v", m, b, at, y, ok, err)
	}
	if is, err := x.Is(m, b, at); is != isOne || err != api.OK {
		t.Fatalf("%v: %q: Is at %d: %v, %v", m, b, at, is, err)
	}
}

// holdError has that questions at an offset are answered by an error, and by nothing else.
func holdError(t *testing.T, x *segment.Tool, m api.Mode, b []byte, at int, want api.Errno) {
	t.Helper()
	if y, ok, err := x.Next(m, b, at); y != (segment.Boundary{}) || ok || err != want {
		t.Fatalf("%v: Next of %d in %d bytes: %v, %v, %v, not %v", m, at, len(b), y, ok, err, want)
	}
	if y, ok, err := x.Preceding(m, b, at); y != (segment.Boundary{}) || ok || err != want {
		t.Fatalf("%v: Preceding of %d in %d bytes: %v, %v, %v, not %v", m, at, len(b), y, ok, err, want)
	}
	if is, err := x.Is(m, b, at); is || err != want {
		t.Fatalf("%v: Is at %d in %d bytes: %v, %v, not %v", m, at, len(b), is, err, want)
	}
}

// begun is the offsets at which a token, or a scalar of a text, begins.
func begun(b []byte) []int {
	var out []int
	for _, x := range token.All(b) {
		out = append(out, x.From)
		if x.Kind == token.Text {
			for _, at := range scalar.Starts(b[x.From:x.To]) {
				out = append(out, x.From+at)
			}
		}
	}
	return out
}

// holdPlaces holds where boundaries may be at all: P26.3.
func holdPlaces(t *testing.T, x *segment.Tool, s string) {
	t.Helper()
	b := []byte(s)
	may := append(begun(b), 0, len(b))
	for _, m := range modes() {
		l, err := x.All(m, b)
		if err != api.OK || len(l) == 0 || l[0] != (segment.Boundary{}) || l[len(l)-1] != (segment.Boundary{At: len(b)}) {
			t.Fatalf("%v: %q: %v, %v", m, s, l, err)
		}
		for i, y := range l {
			if !slices.Contains(may, y.At) || i > 0 && y.At <= l[i-1].At {
				t.Fatalf("%v: %q: %v", m, s, l)
			}
			if isEdge := i == 0 || i == len(l)-1; isEdge != (y.Kind == api.Edge) {
				t.Fatalf("%v: %q: %v", m, s, l)
			}
		}
	}
}

// texts is all texts of up to so many of some pieces.
func texts(most int, pieces string) []string {
	out := []string{""}
	for last := out; most > 0; most-- {
		var longer []string
		for _, s := range last {
			for _, p := range strings.Fields(pieces) {
				longer = append(longer, s+strings.ReplaceAll(p, "_", " "))
			}
		}
		out, last = append(out, longer...), longer
	}
	return out
}
