package expr_test

import (
	"math/rand"
	"slices"
	"strings"
	"testing"

	"virgule/api"
	"virgule/expr"
	"virgule/prop"
)

// tokens are those of an expression's text, in which a space stands only where there must be one.
// Each part, and the whole, stands in extra() more parentheses than it must.
func tokens(n expr.Node, extra func() int) []string {
	return enclosed(bare(n, extra), extra())
}

// bare is tokens, without parentheses around the whole.
func bare(n expr.Node, extra func() int) []string {
	switch n.Kind {
	case expr.Class:
		return []string{prop.Name(n.Class)}
	case expr.Any:
		return []string{"any"}
	case expr.Not:
		return []string{"~", prop.Name(n.Class)}
	case expr.Start:
		return []string{"^"}
	}
	sign := []string{" ", "|", "*", "+", "?"}[n.Kind-expr.Seq]
	var out []string
	for i, k := range n.Kids {
		if i > 0 {
			out = append(out, sign)
		}
		out = append(out, enclosed(tokens(k, extra), needed(n.Kind, k.Kind))...)
	}
	if isRepeat(n.Kind) {
		out = append(out, sign)
	}
	return out
}

// needed is how many parentheses a part must stand in.
func needed(kind, part int) int {
	leaf := part == expr.Class || part == expr.Any || part == expr.Not || part == expr.Start
	switch {
	case kind == expr.Seq && (part == expr.Seq || part == expr.Alt):
		return 1
	case kind == expr.Alt && part == expr.Alt:
		return 1
	case isRepeat(kind) && !leaf:
		return 1
	}
	return 0
}

func enclosed(l []string, times int) []string {
	return slices.Concat(slices.Repeat([]string{"("}, times), l, slices.Repeat([]string{")"}, times))
}

// strict is an expression's text.
func strict(n expr.Node) string {
	return strings.Join(tokens(n, func() int { return 0 }), "")
}

// loose is an expression's text with some spaces and parentheses more than needed.
func loose(rng *rand.Rand, n expr.Node) string {
	var out strings.Builder
	for _, x := range tokens(n, func() int { return max(0, rng.Intn(6)-3) }) {
		out.WriteString(strings.Repeat(" ", max(0, rng.Intn(5)-2)) + x)
	}
	out.WriteString(strings.Repeat(" ", rng.Intn(3)))
	return out.String()
}

// parses holds what a text denotes against an expression.
func parses(t *testing.T, s string, want expr.Node, known ...expr.Macro) {
	t.Helper()
	n, at, err := expr.Parse(s, known...)
	if err != api.OK || at != 0 || !expr.Same(n, want) {
		t.Fatalf("Parse(%q): %q, %d, %d, not %q", s, expr.Print(n), at, err, expr.Print(want))
	}
}

// fails holds an error, and where it is, against what is asked.
func fails(t *testing.T, s string, wantAt int, want api.Errno, known ...expr.Macro) {
	t.Helper()
	n, at, err := expr.Parse(s, known...)
	if err != want || at != wantAt || !expr.Same(n, expr.Node{}) {
		t.Errorf("Parse(%q): %q, %d, %d, not %d, %d", s, expr.Print(n), at, err, wantAt, want)
	}
}

func TestPrintSmall(t *testing.T) {
	for _, n := range small()[1:] {
		s := strict(n)
		if got := expr.Print(n); got != s {
			t.Fatalf("Print(%s): %q, not %q", text(n), got, s)
		}
		parses(t, s, n)
	}
}

func TestPrintedIsParsed(t *testing.T) {
	rng := rand.New(rand.NewSource(3))
	for range 20000 {
		n := random(rng, 5)
		s := strict(n)
		if got := expr.Print(n); got != s {
			t.Fatalf("Print(%s): %q, not %q", text(n), got, s)
		}
		if len(s) <= api.MaxRuled {
			parses(t, s, n)
		}
		if s = loose(rng, n); len(s) <= api.MaxRuled {
			parses(t, s, n)
		}
	}
}

func TestPrintTexts(t *testing.T) {
	l, v := class(classL), class(classV)
	for _, x := range []struct {
		n expr.Node
		s string
	}{
		{nothing(), ""},
		{of(expr.Seq, not(classL), of(expr.Star, of(expr.Alt, v, class(classT)))), "~L (V|T)*"},
		{of(expr.Alt, of(expr.Seq, l, v), v), "L V|V"},
		{of(expr.Seq, of(expr.Seq, l, v), of(expr.Alt, l, v)), "(L V) (L|V)"},
		{of(expr.Alt, of(expr.Alt, l, v), of(expr.Plus, l)), "(L|V)|L+"},
		{of(expr.Maybe, of(expr.Star, not(0))), "(~Other*)?"},
		{of(expr.Plus, of(expr.Seq, anyClass(), beginning())), "(any ^)+"},
		{of(expr.Star, beginning()), "^*"},
	} {
		if got := expr.Print(x.n); got != x.s {
			t.Errorf("%q, not %q", got, x.s)
		}
	}
}

func TestParseTexts(t *testing.T) {
	l, v := class(classL), class(classV)
	seq := of(expr.Seq, l, v)
	for s, want := range map[string]expr.Node{
		"L":         l,
		"  L  ":     l,
		"((L))":     l,
		"( ( L ) )": l,
		"~ L":       not(classL),
		" ~  L ":    not(classL),
		"(~L)*":     of(expr.Star, not(classL)),
		"~L*":       of(expr.Star, not(classL)),
		"~ L *":     of(expr.Star, not(classL)),
		"L *":       of(expr.Star, l),
		"((L)) ?":   of(expr.Maybe, l),
		"((L)?)":    of(expr.Maybe, l),
		"(L?)?":     of(expr.Maybe, of(expr.Maybe, l)),
		"L V":       seq,
		"L   V":     seq,
		"(L) (V)":   seq,
		"((L V))":   seq,
		"(L V) L":   of(expr.Seq, seq, l),
		"L (V L)":   of(expr.Seq, l, of(expr.Seq, v, l)),
		"L V L":     of(expr.Seq, l, v, l),
		"L|V":       of(expr.Alt, l, v),
		" L | V ":   of(expr.Alt, l, v),
		"L V|V":     of(expr.Alt, seq, v),
		"(L V)|V":   of(expr.Alt, seq, v),
		"L|(V|L)":   of(expr.Alt, l, of(expr.Alt, v, l)),
		"L|V|L":     of(expr.Alt, l, v, l),
		"LV":        class(14),
		"LVT":       class(15),
		"any":       anyClass(),
		"any any+":  of(expr.Seq, anyClass(), of(expr.Plus, anyClass())),
		"^ L":       of(expr.Seq, beginning(), l),
		"^* L|^":    of(expr.Alt, of(expr.Seq, of(expr.Star, beginning()), l), beginning()),
		strings.Repeat("(", 20) + "L" + strings.Repeat(")", 20): l,
		strings.Repeat("(((L))) ", 30) + "L":                    of(expr.Seq, slices.Repeat([]expr.Node{l}, 31)...),
	} {
		parses(t, s, want)
	}
	for c := range api.Classes {
		parses(t, prop.Name(c), class(c))
		parses(t, "~"+prop.Name(c), not(c))
	}
}

func TestParseWrong(t *testing.T) {
	deep := strings.Repeat("(", 20)
	for s, want := range map[string]struct {
		at  int
		err api.Errno
	}{
		"":            {0, api.ErrForm},
		"   ":         {3, api.ErrForm},
		"L|":          {2, api.ErrForm},
		"L |  ":       {5, api.ErrForm},
		"|L":          {0, api.ErrForm},
		"L||V":        {2, api.ErrForm},
		"*":           {0, api.ErrForm},
		" +L":         {1, api.ErrForm},
		"L|*":         {2, api.ErrForm},
		"L**":         {2, api.ErrForm},
		"L* ?":        {3, api.ErrForm},
		"(L)+*":       {4, api.ErrForm},
		"(":           {1, api.ErrForm},
		"( ":          {2, api.ErrForm},
		"()":          {1, api.ErrForm},
		"(L":          {2, api.ErrForm},
		"(L ":         {3, api.ErrForm},
		")":           {0, api.ErrForm},
		"L)":          {1, api.ErrForm},
		"L )":         {2, api.ErrForm},
		"(L))":        {3, api.ErrForm},
		"~":           {1, api.ErrForm},
		"~ ":          {2, api.ErrForm},
		"~~L":         {1, api.ErrForm},
		"~(L)":        {1, api.ErrForm},
		"~ ^":         {2, api.ErrForm},
		"~*":          {1, api.ErrForm},
		"L\tV":        {1, api.ErrForm},
		"L\nV":        {1, api.ErrForm},
		"\x00":        {0, api.ErrForm},
		"L\x00":       {1, api.ErrForm},
		"L \x00":      {2, api.ErrForm},
		"(L\x00)":     {2, api.ErrForm},
		"L \xff":      {2, api.ErrForm},
		"L é":         {2, api.ErrForm},
		"L1":          {1, api.ErrForm},
		"1":           {0, api.ErrForm},
		"L_V":         {1, api.ErrForm},
		"L@":          {1, api.ErrForm},
		"L[":          {1, api.ErrForm},
		"L`":          {1, api.ErrForm},
		"L{":          {1, api.ErrForm},
		"X":           {0, api.ErrName},
		"  X":         {2, api.ErrName},
		"l":           {0, api.ErrName},
		"Any":         {0, api.ErrName},
		"anyL":        {0, api.ErrName},
		"L VV":        {2, api.ErrName},
		"L|X)":        {2, api.ErrName},
		"X1":          {0, api.ErrName},
		"X Y":         {0, api.ErrName},
		"L) X":        {1, api.ErrForm},
		"~any":        {1, api.ErrName},
		"~ X":         {2, api.ErrName},
		"~X)":         {1, api.ErrName},
		"~Xany |":     {1, api.ErrName},
		"(L V":        {4, api.ErrForm},
		"L*V":         {2, api.ErrForm},
		"L*X":         {2, api.ErrForm},
		"(L)(V)":      {3, api.ErrForm},
		"L(V)":        {1, api.ErrForm},
		"L~V":         {1, api.ErrForm},
		"L^":          {1, api.ErrForm},
		"^L":          {1, api.ErrForm},
		"^X":          {1, api.ErrForm},
		"L * V":       {0, api.OK},
		deep:          {20, api.ErrForm},
		deep + "(":    {20, api.ErrDeep},
		deep + " (":   {21, api.ErrDeep},
		deep + "L (":  {22, api.ErrDeep},
		deep + "L|(":  {22, api.ErrDeep},
		deep + "L(":   {21, api.ErrForm},
		deep + "~(":   {21, api.ErrForm},
		deep + "L) (": {24, api.ErrForm},
		deep + "X (":  {20, api.ErrName},
		deep + ")":    {20, api.ErrForm},
	} {
		if want.err == api.OK {
			if _, at, err := expr.Parse(s); at != 0 || err != api.OK {
				t.Errorf("Parse(%q): %d, %d", s, at, err)
			}
			continue
		}
		fails(t, s, want.at, want.err)
	}
}

// fault is the first offset at which a text is wrong, by what may stand behind what.
func fault(s string, isName func(string) bool, isClass func(string) bool) (int, api.Errno) {
	const (
		ahead    = iota // of a part
		negated         // behind ~
		behind          // a part
		repeated        // behind *, + or ?
	)
	place, open, parted := ahead, 0, false
	for i := 0; i < len(s); i++ {
		c := s[i]
		begins := place == ahead || (place == behind || place == repeated) && parted
		letter := 'A' <= c && c <= 'Z' || 'a' <= c && c <= 'z'
		switch {
		case c == ' ':
			parted = true
			continue
		case letter && (begins || place == negated):
			j := i + 1
			for j < len(s) && ('A' <= s[j] && s[j] <= 'Z' || 'a' <= s[j] && s[j] <= 'z') {
				j++
			}
			if place == negated && !isClass(s[i:j]) || place != negated && !isName(s[i:j]) {
				return i, api.ErrName
			}
			place, i = behind, j-1
		case c == '~' && begins:
			place = negated
		case c == '^' && begins:
			place = behind
		case c == '(' && begins:
			if open == 20 {
				return i, api.ErrDeep
			}
			open++
			place = ahead
		case strings.IndexByte("*+?", c) >= 0 && place == behind:
			place = repeated
		case c == '|' && (place == behind || place == repeated):
			place = ahead
		case c == ')' && open > 0 && (place == behind || place == repeated):
			open--
			place = behind
		default:
			return i, api.ErrForm
		}
		parted = false
	}
	if open > 0 || place == ahead || place == negated {
		return len(s), api.ErrForm
	}
	return 0, api.OK
}

// holdFault holds what Parse tells of a text against what may stand behind what.
func holdFault(t *testing.T, s string, known ...expr.Macro) {
	t.Helper()
	isClass := func(name string) bool { _, ok := prop.Number(name); return ok }
	isName := func(name string) bool {
		return name == "any" || isClass(name) || slices.ContainsFunc(known, func(m expr.Macro) bool { return m.Name == name })
	}
	wantAt, want := fault(s, isName, isClass)
	n, at, err := expr.Parse(s, known...)
	if at != wantAt || err != want {
		t.Fatalf("Parse(%q): %d, %d, not %d, %d", s, at, err, wantAt, want)
	}
	if err != api.OK {
		if !expr.Same(n, expr.Node{}) {
			t.Fatalf("Parse(%q): %q beside an error", s, expr.Print(n))
		}
		return
	}
	again, _, err := expr.Parse(expr.Print(n))
	if !expr.Right(n) || err != api.OK || !expr.Same(n, again) {
		t.Fatalf("Parse(%q): %q, which is not parsed", s, expr.Print(n))
	}
}

// TestParseAll parses all short texts of some bytes.
func TestParseAll(t *testing.T) {
	const bytes = "LV(|)*~^ "
	var walk func(s string, left int)
	walk = func(s string, left int) {
		holdFault(t, s)
		if left > 0 {
			for i := range len(bytes) {
				walk(s+bytes[i:i+1], left-1)
			}
		}
	}
	walk("", 5)
}

// TestParseNoise parses long texts that are nearly right, and some that are not.
func TestParseNoise(t *testing.T) {
	rng := rand.New(rand.NewSource(9))
	noise := []string{"", " ", "(", ")", "|", "*", "+", "?", "~", "^", "L", "any", "a", "x", "é", "\x00", "9"}
	known := expr.Macro{Name: "a", Node: of(expr.Star, class(classT))}
	for range 30000 {
		s := loose(rng, random(rng, 3))
		for range rng.Intn(3) {
			from := rng.Intn(len(s) + 1)
			to := min(len(s), from+rng.Intn(3))
			s = s[:from] + noise[rng.Intn(len(noise))] + s[to:]
		}
		holdFault(t, s, known)
	}
}

func TestMaxRuled(t *testing.T) {
	full := "L" + strings.Repeat(" ", api.MaxRuled-1)
	parses(t, full, class(classL))
	fails(t, full+" ", 0, api.ErrLong)
	fails(t, strings.Repeat("X", api.MaxRuled), 0, api.ErrName)
	fails(t, strings.Repeat("X", api.MaxRuled+1), 0, api.ErrLong)
	fails(t, ")"+full, 0, api.ErrLong)
	fails(t, strings.Repeat(" ", api.MaxRuled), api.MaxRuled, api.ErrForm)
	fails(t, full[:api.MaxRuled-1]+")", api.MaxRuled-1, api.ErrForm)
}

func TestParseMaxNodes(t *testing.T) {
	// A list is a node more than its parts.
	many := strings.Repeat("^ ", expr.MaxNodes-1)
	parses(t, many, of(expr.Seq, slices.Repeat([]expr.Node{beginning()}, expr.MaxNodes-1)...))
	fails(t, many+"^", 0, api.ErrLong)
	fails(t, many+"^ *", 0, api.ErrLong)
	fails(t, many+"^ )", len(many)+2, api.ErrForm)
	fails(t, many+"X", len(many), api.ErrName)
	fails(t, many+"^ "+strings.Repeat("(", 21), len(many)+22, api.ErrDeep)

	a := expr.Macro{Name: "a", Node: of(expr.Alt, slices.Repeat([]expr.Node{anyClass()}, expr.MaxNodes-1)...)}
	parses(t, " (a) ", a.Node, a)
	fails(t, "a?", 0, api.ErrLong, a)
	fails(t, "a|L", 0, api.ErrLong, a)
	fails(t, "a a (", 5, api.ErrForm, a)
	fails(t, strings.Repeat("a ", api.MaxRuled/2), 0, api.ErrLong, a)
	half := expr.Macro{Name: "a", Node: of(expr.Alt, slices.Repeat([]expr.Node{anyClass()}, expr.MaxNodes/2-2)...)}
	parses(t, "a L a", of(expr.Seq, half.Node, class(classL), half.Node), half)
	fails(t, "a L? a", 0, api.ErrLong, half)
}

func TestMacros(t *testing.T) {
	l, v := class(classL), class(classV)
	seq, star := of(expr.Seq, l, v), of(expr.Star, v)
	known := []expr.Macro{{Name: "s", Node: seq}, {Name: "b", Node: star}, {Name: "c", Node: of(expr.Alt, l, v)}}
	parses(t, "s", seq, known...)
	parses(t, "s s", of(expr.Seq, seq, seq), known...)
	parses(t, "s|c", of(expr.Alt, seq, known[2].Node), known...)
	parses(t, "b*", of(expr.Star, star), known...)
	parses(t, "b s? L", of(expr.Seq, star, of(expr.Maybe, seq), l), known...)
	parses(t, "(b)", star, known...)
	fails(t, "bs", 0, api.ErrName, known...)
	fails(t, "b S", 2, api.ErrName, known...)
	fails(t, "~s", 1, api.ErrName, known...)
	fails(t, "b d", 2, api.ErrName, known...)
	fails(t, "s", 0, api.ErrName)
	n, _, _ := expr.Parse("s c", known...)
	if got := expr.Print(n); got != "(L V) (L|V)" {
		t.Errorf("%q", got)
	}
}

func TestMacrosOfOneName(t *testing.T) {
	l, v := class(classL), class(classV)
	parses(t, "a", v, expr.Macro{Name: "a", Node: l}, expr.Macro{Name: "a", Node: v})
	parses(t, "a a", of(expr.Seq, l, l), expr.Macro{Name: "a", Node: v}, expr.Macro{Name: "b", Node: v}, expr.Macro{Name: "a", Node: l})
	for name, x := range wrong() {
		bad := expr.Macro{Name: "a", Node: x}
		if n, at, err := expr.Parse("L a", bad); at != 2 || err != api.ErrName || !expr.Same(n, expr.Node{}) {
			t.Error(name, "is not ignored", at, err)
		}
		parses(t, "a", l, expr.Macro{Name: "a", Node: v}, expr.Macro{Name: "a", Node: l}, bad, bad)
		parses(t, "a", l, bad, expr.Macro{Name: "a", Node: l})
		parses(t, "L", l, expr.Macro{Name: "L", Node: x})
	}
	none := expr.Macro{Name: "a", Node: nothing()}
	fails(t, "a", 0, api.ErrName, none)
	parses(t, "a", l, expr.Macro{Name: "a", Node: l}, none)
	parses(t, "V", v, expr.Macro{Name: "V", Node: nothing()})
}

func TestMacrosOfOtherNames(t *testing.T) {
	l, v := class(classL), class(classV)
	hidden := []expr.Macro{{Name: "L", Node: v}, {Name: "any", Node: l}, {Name: "", Node: l}, {Name: "x1", Node: l}, {Name: "é", Node: l}}
	parses(t, "L L", of(expr.Seq, v, v), hidden...)
	parses(t, "~L", not(classL), hidden...)
	parses(t, "any", anyClass(), hidden...)
	fails(t, "~any", 1, api.ErrName, hidden...)
	fails(t, "", 0, api.ErrForm, hidden...)
	fails(t, "x1", 0, api.ErrName, hidden...)
	fails(t, "L1", 1, api.ErrForm, hidden...)
	fails(t, "é", 0, api.ErrForm, hidden...)
}

// TestParseShares changes what Parse answered: no macro, and no other part of the answer, may change with it.
func TestParseShares(t *testing.T) {
	a := expr.Macro{Name: "a", Node: of(expr.Seq, class(classL), of(expr.Alt, class(classV), class(classT)))}
	known := []expr.Macro{a, {Name: "b", Node: class(1)}}[:1]
	before := text(a.Node)
	n, _, err := expr.Parse("a a", known...)
	if err != api.OK || text(n.Kids[0]) != before || text(n.Kids[1]) != before {
		t.Fatal(err, text(n))
	}
	n.Kids[0].Kids[0].Class = 30
	n.Kids[0].Kids[1].Kids[0].Class = 31
	_ = append(n.Kids[0].Kids, class(32))
	_ = append(n.Kids[0].Kids[1].Kids, class(33))
	if text(n.Kids[1]) != before || text(a.Node) != before || known[:2][1].Name != "b" {
		t.Error("parts are shared", text(n), text(a.Node))
	}
	alone, _, _ := expr.Parse("a", known...)
	alone.Kids[1].Kids[1].Class = 34
	if text(a.Node) != before {
		t.Error("a macro by itself is shared")
	}
}
