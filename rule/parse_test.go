package rule_test

import (
	"math/rand"
	"regexp"
	"slices"
	"strings"
	"testing"

	"virgule/api"
	"virgule/expr"
	"virgule/prop"
	"virgule/rule"
)

// parses holds what a text denotes against a rule set.
func parses(t *testing.T, s string, want rule.Text) {
	t.Helper()
	x, at, err := rule.Parse(s)
	if err != api.OK || at != 0 || all(x) != all(want) {
		t.Fatalf("Parse(%q): %d, %d, %s, not %s", s, at, err, all(x), all(want))
	}
}

// fails holds an error, and where it is, against what is asked.
func fails(t *testing.T, s string, wantAt int, want api.Errno) {
	t.Helper()
	x, at, err := rule.Parse(s)
	if err != want || at != wantAt || x.Ignore != nil || x.Keep != nil || x.Rules != nil {
		t.Errorf("Parse(%q): %d, %d, %s, not %d, %d", s, at, err, all(x), wantAt, want)
	}
}

func TestParseTexts(t *testing.T) {
	l, v := class(classL), class(classV)
	lv := joins(l, v)
	star := of(expr.Star, l)
	for s, want := range map[string]rule.Text{
		"":                         {},
		"\n":                       {},
		"   ":                      {},
		" \n\n  \n":                {},
		"#":                        {},
		"  # L !":                  {},
		"#\n #\n##!\n# let":        {},
		"L!V":                      rules(lv),
		"L ! V":                    rules(lv),
		"  L   !   V   ":           rules(lv),
		"L ! V\n":                  rules(lv),
		"\n\n  L ! V # V / L\n\n#": rules(lv),
		"L ! V#":                   rules(lv),
		"!":                        rules(joins(nothing(), nothing())),
		" / ":                      rules(breaks(nothing(), nothing())),
		"/#L":                      rules(breaks(nothing(), nothing())),
		"L!":                       rules(joins(l, nothing())),
		"L  /  ":                   rules(breaks(l, nothing())),
		"!L":                       rules(joins(nothing(), l)),
		"  /  L  #":                rules(breaks(nothing(), l)),
		"(L)!(V)":                  rules(lv),
		"~L ! ~V":                  rules(joins(not(classL), not(classV))),
		"L / V\nL ! V\n/\nL ! V":   rules(breaks(l, v), lv, breaks(nothing(), nothing()), lv),
		"^ L* / any":               rules(breaks(of(expr.Seq, beginning(), star), anyClass())),
		"L* ! L L L L":             rules(joins(star, seqOf(l, 4))),
		"! L? (L|L V) V?":          rules(joins(nothing(), of(expr.Seq, of(expr.Maybe, l), of(expr.Alt, l, of(expr.Seq, l, v)), of(expr.Maybe, v)))),
		"^*!":                      rules(joins(of(expr.Star, beginning()), nothing())),
		"ignore L":                 listed([]int{classL}, nil),
		"ignore   V L  V  L  ":     listed([]int{classL, classV}, nil),
		"keep L L L#V":             listed(nil, []int{classL}),
		"keep Gap\nignore Other":   listed([]int{0}, []int{35}),
		"keep L\nignore L\nL!V":    listed([]int{classL}, []int{classL}, lv),
		" L!V\nkeep L #\n!":        listed(nil, []int{classL}, lv, joins(nothing(), nothing())),
		"ignore V T L LV LVT CR":   listed([]int{cr, classL, classV, classT, 14, 15}, nil),
	} {
		parses(t, s, want)
	}
}

func TestParseMacros(t *testing.T) {
	l, v := class(classL), class(classV)
	alt := of(expr.Alt, l, v)
	for s, want := range map[string]rule.Text{
		"let a=L":                                        {},
		"let a = L\na ! a":                               rules(joins(l, l)),
		"  let a  =  L  # x\n a!":                        rules(joins(l, nothing())),
		"let a =L|V\nlet b= a a\nb ! a?":                 rules(joins(of(expr.Seq, alt, alt), of(expr.Maybe, alt))),
		"let letter = L\nletter ! letter":                rules(joins(l, l)),
		"let letlet = L\nletlet ! V":                     rules(joins(l, v)),
		"let lets = L\nlet keeper = V\nlets ! keeper":    rules(joins(l, v)),
		"let l = L\nlet Any = V\nl ! Any":                rules(joins(l, v)),
		"let Let = L\nlet Ignore = V\nLet ! Ignore":      rules(joins(l, v)),
		"let a = ^ L*\na !":                              rules(joins(of(expr.Seq, beginning(), of(expr.Star, l)), nothing())),
		"let a = L\nlet b = a\nlet c = b\nc !":           rules(joins(l, nothing())),
		"L !\nlet a = V\na !":                            rules(joins(l, nothing()), joins(v, nothing())),
		"let ignoreall = L\nignoreall ! V":               rules(joins(l, v)),
		"let lettuce = L\n(lettuce) ! V":                 rules(joins(l, v)),
		"let abcdefghijklmnopqrstuvwxyzABC = L\nL ! V  ": rules(joins(l, v)),
	} {
		parses(t, s, want)
	}
}

func TestParseWrongLets(t *testing.T) {
	for s, want := range map[string]struct {
		at  int
		err api.Errno
	}{
		"let":                                {3, api.ErrForm},
		"  let":                              {5, api.ErrForm},
		"let ":                               {4, api.ErrForm},
		"let#":                               {3, api.ErrForm},
		"let #":                              {4, api.ErrForm},
		"let\n a=L":                          {3, api.ErrForm},
		"let=L":                              {3, api.ErrForm},
		"let!L":                              {3, api.ErrForm},
		"let =L":                             {4, api.ErrForm},
		"let  a=L":                           {4, api.ErrForm},
		"let\ta=L":                           {3, api.ErrForm},
		"let ! L":                            {4, api.ErrForm},
		"let 1=L":                            {4, api.ErrForm},
		"let \xff=L":                         {4, api.ErrForm},
		"let let=L":                          {4, api.ErrName},
		"let ignore=L":                       {4, api.ErrName},
		"let keep=L":                         {4, api.ErrName},
		"let any=L":                          {4, api.ErrName},
		"let any":                            {4, api.ErrName},
		"let Extend 1":                       {4, api.ErrName},
		"  let L":                            {6, api.ErrName},
		"L !\n let L":                        {9, api.ErrName},
		"let a":                              {5, api.ErrForm},
		"let a   ":                           {8, api.ErrForm},
		"let a # = L":                        {6, api.ErrForm},
		"let a L":                            {6, api.ErrForm},
		"let a1 = L":                         {5, api.ErrForm},
		"let a b = L":                        {6, api.ErrForm},
		"let a\t= L":                         {5, api.ErrForm},
		"let é = L":                          {4, api.ErrForm},
		"let aé = L":                         {5, api.ErrForm},
		"let a=L\nlet a=V":                   {12, api.ErrTwice},
		"let a=L\n  let a 1":                 {14, api.ErrTwice},
		"let a=L\nlet b=L\nlet a":            {20, api.ErrTwice},
		"let a=":                             {6, api.ErrForm},
		"let a=   ":                          {9, api.ErrForm},
		"let a = # L":                        {8, api.ErrForm},
		"let a = \nL!":                       {8, api.ErrForm},
		"let a = = L":                        {8, api.ErrForm},
		"let a = a":                          {8, api.ErrName},
		"let a = L V b":                      {12, api.ErrName},
		"a !\nlet a = L":                     {0, api.ErrName},
		"let a = b\nlet b = L":               {8, api.ErrName},
		"let a = L\n! ~a":                    {13, api.ErrName},
		"let a = (L  ":                       {12, api.ErrForm},
		"let a = L ! V":                      {10, api.ErrForm},
		"let a = L*+":                        {10, api.ErrForm},
		"let a=L\nignore a":                  {15, api.ErrName},
		"let a=L*\n L ! a":                   {13, api.ErrWide},
		"let a=^\n L ! L? a":                 {12, api.ErrForm},
		"let A = L\nlet a = A a":             {20, api.ErrName},
		"let a = " + strings.Repeat("(", 21): {28, api.ErrDeep},
	} {
		fails(t, s, want.at, want.err)
	}
}

func TestParseWrongLists(t *testing.T) {
	for _, word := range []string{"ignore", "keep"} {
		// Offsets behind the word count from its end.
		for s, want := range map[string]struct {
			at  int
			err api.Errno
		}{
			"":             {0, api.ErrForm},
			"   ":          {3, api.ErrForm},
			"  # L":        {2, api.ErrForm},
			"\nL":          {0, api.ErrForm},
			"1":            {0, api.ErrForm},
			" 1":           {1, api.ErrForm},
			"!":            {0, api.ErrForm},
			" ! L":         {1, api.ErrForm},
			"=L":           {0, api.ErrForm},
			" L,V":         {2, api.ErrForm},
			" L  1":        {4, api.ErrForm},
			" L1":          {2, api.ErrForm},
			" L\tV":        {2, api.ErrForm},
			" L \xff":      {3, api.ErrForm},
			" é":           {1, api.ErrForm},
			" X":           {1, api.ErrName},
			"   X":         {3, api.ErrName},
			" L X":         {3, api.ErrName},
			" X 1":         {1, api.ErrName},
			" X1":          {1, api.ErrName},
			" 1 X":         {1, api.ErrForm},
			" any":         {1, api.ErrName},
			" l":           {1, api.ErrName},
			" LL":          {1, api.ErrName},
			" L let":       {3, api.ErrName},
			" " + word:     {1, api.ErrName},
			" ~L":          {1, api.ErrForm},
			" (L)":         {1, api.ErrForm},
			" L L L L VVV": {9, api.ErrName},
		} {
			fails(t, word+s, len(word)+want.at, want.err)
			fails(t, "L ! V\n  "+word+s, 8+len(word)+want.at, want.err)
		}
		first := word + " L\n"
		for s, at := range map[string]int{word: 0, "  " + word + " X": 2, word + " L": 0, word + "1": 0, "\nL!\n " + word + " V": 5} {
			fails(t, first+s, len(first)+at, api.ErrTwice)
		}
	}
	fails(t, "keep L\nignore L\nkeep", 16, api.ErrTwice)
	fails(t, "ignore X\nignore X", 7, api.ErrName)
	fails(t, "let X = L\nkeep X", 15, api.ErrName)
}

func TestParseWrongRules(t *testing.T) {
	for s, want := range map[string]struct {
		at  int
		err api.Errno
	}{
		"L":                            {1, api.ErrForm},
		"L V   ":                       {6, api.ErrForm},
		" X Y # L ! L":                 {5, api.ErrForm},
		"1":                            {1, api.ErrForm},
		"L # ! V":                      {2, api.ErrForm},
		"L\n! V":                       {1, api.ErrForm},
		"\t":                           {1, api.ErrForm},
		"L ! V\r\n":                    {5, api.ErrForm},
		"\x00":                         {1, api.ErrForm},
		"lets a = L":                   {10, api.ErrForm},
		"ignored L":                    {9, api.ErrForm},
		"keepL":                        {5, api.ErrForm},
		"Let a = L":                    {9, api.ErrForm},
		"(L ! V":                       {3, api.ErrForm},
		"(L   ! V":                     {5, api.ErrForm},
		"L|! V":                        {2, api.ErrForm},
		" ~ / V":                       {3, api.ErrForm},
		"L ! (V":                       {6, api.ErrForm},
		"L ! (V   ":                    {9, api.ErrForm},
		"L ! V|  # L)":                 {8, api.ErrForm},
		"L ! V| \nL":                   {7, api.ErrForm},
		"L ! ~":                        {5, api.ErrForm},
		"L ) ! V":                      {2, api.ErrForm},
		"L ! V )":                      {6, api.ErrForm},
		"L ! V ! T":                    {6, api.ErrForm},
		"L / V ! T":                    {6, api.ErrForm},
		"!!":                           {1, api.ErrForm},
		"! /":                          {2, api.ErrForm},
		"X ! Y":                        {0, api.ErrName},
		"  X ! Y":                      {2, api.ErrName},
		"L X ! Y":                      {2, api.ErrName},
		"L ! Y":                        {4, api.ErrName},
		"L ! let":                      {4, api.ErrName},
		"lets ! L":                     {0, api.ErrName},
		"L ! V\nX !":                   {6, api.ErrName},
		"X ! ^":                        {0, api.ErrName},
		"L ! ^":                        {3, api.ErrForm},
		"L !   ^":                      {3, api.ErrForm},
		"!^":                           {1, api.ErrForm},
		"L / V|(L ^)?":                 {3, api.ErrForm},
		"L ! ^*":                       {3, api.ErrForm},
		"L ! L* ^":                     {3, api.ErrForm},
		"L ! ^ X":                      {6, api.ErrName},
		"L ! V*":                       {3, api.ErrWide},
		"L V / V+":                     {5, api.ErrWide},
		"/ V|(V* L)?":                  {1, api.ErrWide},
		"L ! V* X":                     {7, api.ErrName},
		"L ! L L L L L":                {3, api.ErrWide},
		"! L? L? L L V?":               {1, api.ErrWide},
		"! L|V V V V V":                {1, api.ErrWide},
		"! L V (L|L V|V V V)":          {1, api.ErrWide},
		"! " + strings.Repeat("(", 21): {22, api.ErrDeep},
		strings.Repeat("(", 21) + "!":  {20, api.ErrDeep},
		"#\n\n   L ! V ! \n":           {12, api.ErrForm},
		" # x\n # y\n L ! V*":          {14, api.ErrWide},
	} {
		fails(t, s, want.at, want.err)
	}
}

func TestParseMaxRules(t *testing.T) {
	r := joins(class(classL), class(classV))
	full := strings.Repeat("L ! V\n", 40)
	parses(t, full, rules(slices.Repeat([]rule.Rule{r}, 40)...))
	parses(t, full+"let a = L\nkeep CR\n  # L ! V", listed(nil, []int{cr}, slices.Repeat([]rule.Rule{r}, 40)...))
	for _, s := range []string{"L ! V", "L", "X ! ^", "!", "\t", ")\nkeep X"} {
		fails(t, full+s, len(full), api.ErrLong)
		fails(t, full+"# x\n\n   "+s, len(full)+8, api.ErrLong)
	}
	fails(t, full+"let\nL ! V", len(full)+3, api.ErrForm)
	fails(t, full[:len(full)-2]+"X\nL ! V", len(full)-2, api.ErrName)
}

func TestParseMaxRuled(t *testing.T) {
	full := "L ! V" + strings.Repeat(" ", api.MaxRuled-5)
	parses(t, full, rules(joins(class(classL), class(classV))))
	parses(t, strings.Repeat("\n", api.MaxRuled), rule.Text{})
	parses(t, strings.Repeat("#", api.MaxRuled), rule.Text{})
	fails(t, full+" ", 0, api.ErrLong)
	fails(t, strings.Repeat("\n", api.MaxRuled+1), 0, api.ErrLong)
	fails(t, ")"+full, 0, api.ErrLong)
	fails(t, full[1:]+")", api.MaxRuled-1, api.ErrForm)
	fails(t, full[:api.MaxRuled-1]+"|", api.MaxRuled, api.ErrForm)
	fails(t, full[:api.MaxRuled-1]+"(", api.MaxRuled, api.ErrForm)
}

// TestParseMaxNodes reads expressions that have more nodes than they may: they are wrong where they begin.
func TestParseMaxNodes(t *testing.T) {
	many := "let a = " + strings.Repeat("^*|", 400) + "^*\nlet b = a|a\n"
	b := of(expr.Alt, slices.Repeat([]expr.Node{of(expr.Alt, slices.Repeat([]expr.Node{of(expr.Star, beginning())}, 401)...)}, 2)...)
	parses(t, many+"b|L !", rules(joins(of(expr.Alt, b, class(classL)), nothing())))
	fails(t, many+"  b|a ! X", len(many)+2, api.ErrLong)
	fails(t, many+"L !b|a", len(many)+3, api.ErrLong)
	fails(t, many+"let c =b|a", len(many)+7, api.ErrLong)
	fails(t, many+"let c =b|a|X", len(many)+11, api.ErrName)
}

// TestParseShares changes what Parse answered: nothing else of the answer may change with it.
func TestParseShares(t *testing.T) {
	s := "let a = L (V|T)\nkeep L V\nignore L V\na a ! a\na ! a"
	x, _, err := rule.Parse(s)
	if err != api.OK {
		t.Fatal(err)
	}
	x.Rules[0].Left.Kids[0].Kids[1].Kids[0].Class = 30
	x.Rules[0].Right.Kids[0].Class = 31
	x.Ignore[0] = 0
	_ = append(x.Rules[0].Left.Kids[1].Kids, class(32))
	y, _, _ := rule.Parse(s)
	if written(x.Rules[0].Left.Kids[1]) != written(y.Rules[0].Left.Kids[1]) || all(rules(x.Rules[1])) != all(rules(y.Rules[1])) {
		t.Error("rules share their parts")
	}
	if !slices.Equal(x.Keep, []int{classL, classV}) {
		t.Error("lists are shared", x.Keep)
	}
}

// The forms of lines, from their first byte that isn't a space on.
var (
	wordForm = regexp.MustCompile(`^[A-Za-z]*`)
	letForm  = regexp.MustCompile(`^let( ?)([A-Za-z]*)( *)(=?)`)
	nameForm = regexp.MustCompile(`[A-Za-z]+|[^ ]`)
)

// told is what a text means, line by line, by the chapter's forms.
type told struct {
	meant  rule.Text
	macros []expr.Macro
}

// tell is what a text means, or else where it is wrong.
func tell(s string) (rule.Text, int, api.Errno) {
	var x told
	from := 0
	for _, raw := range strings.Split(s, "\n") {
		body := strings.SplitN(raw, "#", 2)[0]
		trimmed := strings.TrimLeft(body, " ")
		if at, err := x.line(trimmed); err != api.OK {
			return rule.Text{}, from + len(body) - len(trimmed) + at, err
		}
		from += len(raw) + 1
	}
	return x.meant, 0, api.OK
}

// line tells where a line is wrong, from its beginning on.
func (x *told) line(s string) (int, api.Errno) {
	switch word := wordForm.FindString(s); {
	case s == "":
		return 0, api.OK
	case word == "let":
		return x.let(s)
	case word == "ignore":
		return names(s, len(word), &x.meant.Ignore)
	case word == "keep":
		return names(s, len(word), &x.meant.Keep)
	}
	return x.rule(s)
}

func (x *told) let(s string) (int, api.Errno) {
	m := letForm.FindStringSubmatch(s)
	name := 3 + len(m[1])
	behind := len(m[0])
	switch {
	case m[2] == "":
		return name, api.ErrForm
	case slices.Contains([]string{"let", "ignore", "keep", "any"}, m[2]) || isClassName(m[2]):
		return name, api.ErrName
	case slices.ContainsFunc(x.macros, func(k expr.Macro) bool { return k.Name == m[2] }):
		return name, api.ErrTwice
	case m[4] == "":
		return behind, api.ErrForm
	}
	n, at, err := expr.Parse(s[behind:], x.macros...)
	if err != api.OK {
		return behind + at, err
	}
	x.macros = append(x.macros, expr.Macro{Name: m[2], Node: n})
	return 0, api.OK
}

func isClassName(name string) bool {
	_, ok := prop.Number(name)
	return ok
}

func names(s string, from int, into *[]int) (int, api.Errno) {
	if *into != nil {
		return 0, api.ErrTwice
	}
	found := map[int]struct{}{}
	for _, span := range nameForm.FindAllStringIndex(s[from:], -1) {
		name := s[from+span[0] : from+span[1]]
		if wordForm.FindString(name) == "" {
			return from + span[0], api.ErrForm
		}
		class, ok := prop.Number(name)
		if !ok {
			return from + span[0], api.ErrName
		}
		found[class] = struct{}{}
	}
	if len(found) == 0 {
		return len(s), api.ErrForm
	}
	for class := range api.Classes {
		if _, ok := found[class]; ok {
			*into = append(*into, class)
		}
	}
	return 0, api.OK
}

func (x *told) rule(s string) (int, api.Errno) {
	sign := strings.IndexAny(s, "!/")
	if len(x.meant.Rules) == 40 {
		return 0, api.ErrLong
	}
	if sign < 0 {
		return len(s), api.ErrForm
	}
	r := rule.Rule{Left: nothing(), Right: nothing(), Break: s[sign] == '/'}
	for i, part := range []string{s[:sign], s[sign+1:]} {
		if strings.Trim(part, " ") == "" {
			continue
		}
		n, at, err := expr.Parse(part, x.macros...)
		if err != api.OK {
			return i*(sign+1) + at, err
		}
		if i == 0 {
			r.Left = n
		} else {
			r.Right = n
		}
	}
	if holds(r.Right, expr.Start) {
		return sign + 1, api.ErrForm
	}
	if !mayLookAhead(r.Right) {
		return sign + 1, api.ErrWide
	}
	x.meant.Rules = append(x.meant.Rules, r)
	return 0, api.OK
}

// holdText holds what Parse tells of a text against what its lines' forms tell.
func holdText(t *testing.T, s string) {
	t.Helper()
	want, wantAt, wantErr := tell(s)
	x, at, err := rule.Parse(s)
	if at != wantAt || err != wantErr || all(x) != all(want) {
		t.Fatalf("Parse(%q): %d, %d, %s, not %d, %d, %s", s, at, err, all(x), wantAt, wantErr, all(want))
	}
	if err == api.OK && !rule.Right(x) {
		t.Fatalf("Parse(%q): %s, which is not valid", s, all(x))
	}
	if printed := rule.Print(x); err == api.OK && len(printed) <= api.MaxRuled {
		parses(t, printed, x)
	}
}

// TestParseAll parses all texts of a few pieces.
func TestParseAll(t *testing.T) {
	pieces := []string{"let", "ignore", "keep", " ", "a", "L", "=", "!", "/", "#", "\n", "*", "("}
	var walk func(s string, left int)
	walk = func(s string, left int) {
		holdText(t, s)
		if left > 0 {
			for _, p := range pieces {
				walk(s+p, left-1)
			}
		}
	}
	walk("", 4)
	for _, s := range []string{"let a=L\n", "ignore L", "keep L\n ", "L !", "let a"} {
		walk(s, 4)
	}
}

// randomLines is lines of all forms, mostly right by themselves.
func randomLines(rng *rand.Rand) string {
	names := []string{"a", "b", "lets", "L", "any", "Extend", "keep", "x"}
	spaces := func() string { return strings.Repeat(" ", max(0, rng.Intn(5)-2)) }
	var out strings.Builder
	for range rng.Intn(6) {
		out.WriteString(spaces())
		switch rng.Intn(7) {
		case 0, 1:
			out.WriteString("let " + names[rng.Intn(len(names))] + spaces() + "=" + spaces() + expr.Print(random(rng, 2)))
		case 2:
			out.WriteString([]string{"ignore", "keep"}[rng.Intn(2)])
			for range rng.Intn(4) {
				out.WriteString(" " + spaces() + prop.Name(rng.Intn(api.Classes)))
			}
		case 3:
			out.WriteString("#" + names[rng.Intn(len(names))])
		default:
			side := func() string {
				if rng.Intn(2) == 0 {
					return names[rng.Intn(len(names))]
				}
				return expr.Print(randomSide(rng))
			}
			out.WriteString(side() + spaces() + []string{"!", "/"}[rng.Intn(2)] + spaces() + side())
		}
		out.WriteString(spaces() + "\n")
	}
	return out.String()
}

// TestParseNoise parses long texts that are nearly right, and some that are not.
func TestParseNoise(t *testing.T) {
	rng := rand.New(rand.NewSource(8))
	noise := []string{"", " ", "\n", "#", "!", "/", "=", "let ", "ignore ", "keep ", "(", ")", "|", "*", "^", "~", "L", "any", "a", "x", "é", "\x00", "9"}
	for range 30000 {
		s := randomLines(rng)
		for range rng.Intn(3) {
			from := rng.Intn(len(s) + 1)
			to := min(len(s), from+rng.Intn(3))
			s = s[:from] + noise[rng.Intn(len(noise))] + s[to:]
		}
		holdText(t, s)
	}
}
