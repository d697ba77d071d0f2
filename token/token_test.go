package token_test

import (
	"bytes"
	"math"
	"slices"
	"strings"
	"testing"

	"virgule/token"
)

// lines is the tokens of s, printed.
func lines(s string) []string {
	var out []string
	for _, x := range token.All([]byte(s)) {
		out = append(out, token.Print(x))
	}
	return out
}

// hold holds the printed tokens of some texts.
func hold(t *testing.T, wanted map[string][]string) {
	t.Helper()
	for s, want := range wanted {
		if got := lines(s); !slices.Equal(got, want) {
			t.Errorf("%q: %q, not %q", s, got, want)
		}
	}
}

func TestKinds(t *testing.T) { // P19.1
	numbers := []int{token.Text, token.Ref, token.Start, token.End, token.Comment, token.Decl, token.Escape, token.Raw}
	if !slices.Equal(numbers, []int{0, 1, 2, 3, 4, 5, 6, 7}) {
		t.Error("the kinds' numbers", numbers)
	}
	hold(t, map[string][]string{
		"":                {},
		"a":               {"text 0 1"},
		"é\n\x00\xff>;m]": {"text 0 9"},
		"a < b & c":       {"text 0 9"},
		"<>&;&amp< b":     {"text 0 11"},
		"<<b>&&lt;":       {"text 0 1", "start 1 4 b", "text 4 5", "ref 5 9 U+003C"},
		"&#x41;&#65;":     {"ref 0 6 U+0041", "ref 6 11 U+0041"},
		"&#0;&#x10FFFF;":  {"ref 0 4 U+FFFD", "ref 4 14 U+10FFFF"},
		"&#x110000;":      {"ref 0 10 U+FFFD"},
		"&#12345678;":     {"text 0 11"},
		"<B Class=x />":   {"start 0 13 b /"},
		"</B x>":          {"end 0 6 b"},
		"</b/>a":          {"end 0 5 b /", "text 5 6"},
		"<b":              {"start 0 2 b"},
		"a<b c='>&lt;":    {"text 0 1", "start 1 12 b"},
		"<!--a--><!---->": {"comment 0 8", "comment 8 15"},
		"<!-->-->a":       {"comment 0 8", "text 8 9"},
		"a<!--&lt;<b>":    {"text 0 1", "comment 1 12"},
		"<!a><?b></ c>":   {"decl 0 4", "decl 4 8", "decl 8 13"},
		"</":              {"decl 0 2"},
		"\x1b[31ma\x1bM":  {"escape 0 5", "text 5 6", "escape 6 8"},
		"\x1b\x1ba":       {"escape 0 1", "escape 1 2", "text 2 3"},
		"\x1b<b>":         {"escape 0 1", "start 1 4 b"},
		"\x1b[<b>":        {"escape 0 4", "text 4 5"},
		"\x1b[&lt;":       {"escape 0 4", "text 4 6"},
		"\x1b[\x80m":      {"escape 0 2", "text 2 4"},
		"&l\x1b[mt;":      {"text 0 2", "escape 2 5", "text 5 7"},
		"&lt<b>;":         {"text 0 3", "start 3 6 b", "text 6 7"},
		"<b &lt; \x1b[m>": {"start 0 12 b"},
		"é<b>\xf0\x9f<b>": {"text 0 2", "start 2 5 b", "text 5 7", "start 7 10 b"},
	})
}

func TestRaw(t *testing.T) { // P19.1
	hold(t, map[string][]string{
		"<script>a<b</script>":       {"start 0 8 script", "raw 8 11", "end 11 20 script"},
		"<SCRIPT>a</sCRIPt>b":        {"start 0 8 script", "raw 8 9", "end 9 18 script", "text 18 19"},
		"<style\n>&lt;</STYLE\t>":    {"start 0 8 style", "raw 8 12", "end 12 21 style"},
		"<script></script>":          {"start 0 8 script", "end 8 17 script"},
		"<script>":                   {"start 0 8 script"},
		"<script>a":                  {"start 0 8 script", "raw 8 9"},
		"<script></script":           {"start 0 8 script", "end 8 16 script"},
		"<script></scrip":            {"start 0 8 script", "raw 8 15"},
		"<script></":                 {"start 0 8 script", "raw 8 10"},
		"<script></script/a":         {"start 0 8 script", "end 8 18 script"},
		"<script></script/>":         {"start 0 8 script", "end 8 18 script /"},
		"<script></scripts></script": {"start 0 8 script", "raw 8 18", "end 18 26 script"},
		"<script></script\v></style": {"start 0 8 script", "raw 8 25"},
		"<script></ script>":         {"start 0 8 script", "raw 8 18"},
		"<script>< /script>":         {"start 0 8 script", "raw 8 18"},
		"<script><</script>":         {"start 0 8 script", "raw 8 9", "end 9 18 script"},
		"<script></</script>":        {"start 0 8 script", "raw 8 10", "end 10 19 script"},
		"<script></ſcript>":          {"start 0 8 script", "raw 8 18"},
		"<script></style>":           {"start 0 8 script", "raw 8 16"},
		"<style></script></style>":   {"start 0 7 style", "raw 7 16", "end 16 24 style"},
		"<script><script></script>a": {"start 0 8 script", "raw 8 16", "end 16 25 script", "text 25 26"},
		"<style><!--</style>-->":     {"start 0 7 style", "raw 7 11", "end 11 19 style", "text 19 22"},
		"<script>'</script>'":        {"start 0 8 script", "raw 8 9", "end 9 18 script", "text 18 19"},
		"<script>\x1b[m\xff&#1;":     {"start 0 8 script", "raw 8 16"},
		"<style></style><style>b":    {"start 0 7 style", "end 7 15 style", "start 15 22 style", "raw 22 23"},
		"<style a=b/>c<d>":           {"start 0 12 style", "raw 12 16"},

		"<style/>a<b>":         {"start 0 8 style /", "text 8 9", "start 9 12 b"},
		"<script a />&lt;":     {"start 0 12 script /", "ref 12 16 U+003C"},
		"<script a<b>":         {"start 0 12 script"},
		"<script a='><b>":      {"start 0 15 script"},
		"</script>a<b>":        {"end 0 9 script", "text 9 10", "start 10 13 b"},
		"<scripts>a<b>":        {"start 0 9 scripts", "text 9 10", "start 10 13 b"},
		"<scrip>a<b>":          {"start 0 7 scrip", "text 7 8", "start 8 11 b"},
		"<styl\u00e9>a<b>":     {"start 0 8 styl\u00e9", "text 8 9", "start 9 12 b"},
		"<ſtyle>a<b>":          {"text 0 9", "start 9 12 b"},
		"<title>a<b></title>":  {"start 0 7 title", "text 7 8", "start 8 11 b", "end 11 19 title"},
		"<a script>b<c>":       {"start 0 10 a", "text 10 11", "start 11 14 c"},
		"<!--<script>-->b<c>":  {"comment 0 15", "text 15 16", "start 16 19 c"},
		"<!script>b<c>":        {"decl 0 9", "text 9 10", "start 10 13 c"},
		"< script>b<c>":        {"text 0 10", "start 10 13 c"},
		"<textarea>&lt;<b>":    {"start 0 10 textarea", "ref 10 14 U+003C", "start 14 17 b"},
		"<pre>a</script>b<c/>": {"start 0 5 pre", "text 5 6", "end 6 15 script", "text 15 16", "start 16 20 c /"},
	})
}

// TestBehindName has each byte behind the name of an end tag: some end raw bytes, and all others do not.
func TestBehindName(t *testing.T) { // P19.1
	for _, name := range []string{"script", "STYLE", "sTyLe"} {
		head := "<" + name + ">ab"
		for c := range 256 {
			for _, tail := range []string{"", "x", "<b>"} {
				s := head + "</" + name + string([]byte{byte(c)}) + tail
				end := len(s)
				if strings.IndexByte("\x09\x0a\x0c\x0d\x20/>", byte(c)) >= 0 {
					end = len(head)
				}
				want := token.Token{Kind: token.Raw, From: len(head) - 2, To: end}
				if x, ok := token.At([]byte(s), want.From); !ok || x != want {
					t.Errorf("%q: %+v, %v, not %+v", s, x, ok, want)
				}
			}
		}
	}
}

func TestAt(t *testing.T) { // P19.1
	const s = "a<B c/>&#x3C;é\x1b[m<!--d--><!e></B><script>f<g</Script>"
	for want, offsets := range map[string][2]int{
		"text 0 1":           {0, 1},
		"start 1 7 b /":      {1, 7},
		"ref 7 13 U+003C":    {7, 13},
		"text 13 15":         {13, 15},
		"escape 15 18":       {15, 18},
		"comment 18 26":      {18, 26},
		"decl 26 30":         {26, 30},
		"end 30 34 b":        {30, 34},
		"start 34 42 script": {34, 42},
		"raw 42 45":          {42, 45},
		"end 45 54 script":   {45, 54},
	} {
		for at := offsets[0]; at < offsets[1]; at++ {
			if x, ok := token.At([]byte(s), at); token.Print(x) != want || !ok {
				t.Errorf("At %d: %+v, %v, not %s", at, x, ok, want)
			}
		}
	}
	if len(s) != 54 {
		t.Error("the text's length", len(s))
	}
	for _, s := range []string{"", "a", "<", "<b>", "&lt;", "<script>a", s} {
		holdNone(t, s, -1, -len(s)-1, math.MinInt, math.MinInt+1, len(s), len(s)+1, 1<<32, math.MaxInt-1, math.MaxInt)
	}
	if x, ok := token.At(nil, 0); ok || x != (token.Token{}) {
		t.Errorf("nothing: %+v", x)
	}
	if l := token.All(nil); len(l) != 0 {
		t.Errorf("nothing: %+v", l)
	}
}

// TestFields has that a token has no more than its kind has.
func TestFields(t *testing.T) { // P19.1
	got := token.All([]byte("a&lt;<b /></C><d x=y><!--e--></ f>\x1b[m<style>g"))
	want := []token.Token{
		{Kind: token.Text, From: 0, To: 1},
		{Kind: token.Ref, From: 1, To: 5, R: '<'},
		{Kind: token.Start, From: 5, To: 10, Name: "b", Single: true},
		{Kind: token.End, From: 10, To: 14, Name: "c"},
		{Kind: token.Start, From: 14, To: 21, Name: "d"},
		{Kind: token.Comment, From: 21, To: 29},
		{Kind: token.Decl, From: 29, To: 34},
		{Kind: token.Escape, From: 34, To: 37},
		{Kind: token.Start, From: 37, To: 44, Name: "style"},
		{Kind: token.Raw, From: 44, To: 45},
	}
	if !slices.Equal(got, want) {
		t.Errorf("%+v, not %+v", got, want)
	}
}

func TestKind(t *testing.T) { // P19.2
	for i, want := range []string{"text", "ref", "start", "end", "comment", "decl", "escape", "raw"} {
		if got := token.Kind(i); got != want {
			t.Errorf("Kind(%d): %q, not %q", i, got, want)
		}
	}
	for _, kind := range []int{-1, -8, 8, 9, 256, 1 << 32, math.MinInt, math.MinInt + 1, math.MaxInt} {
		if got := token.Kind(kind); got != "" {
			t.Errorf("Kind(%d): %q", kind, got)
		}
		if got := token.Print(token.Token{Kind: kind, From: 1, To: 2, Name: "b", R: 'a', Single: true}); got != "" {
			t.Errorf("Print of kind %d: %q", kind, got)
		}
	}
}

func TestPrint(t *testing.T) { // P19.2: of tokens with any contents
	for kind, want := range map[int]string{
		token.Text:    "text 3 -4",
		token.Ref:     "ref 3 -4 U+-0041",
		token.Start:   "start 3 -4 x /",
		token.End:     "end 3 -4 x /",
		token.Comment: "comment 3 -4",
		token.Decl:    "decl 3 -4",
		token.Escape:  "escape 3 -4",
		token.Raw:     "raw 3 -4",
	} {
		if got := token.Print(token.Token{Kind: kind, From: 3, To: -4, Name: "x", R: -0x41, Single: true}); got != want {
			t.Errorf("Print: %q, not %q", got, want)
		}
	}
	for want, x := range map[string]token.Token{
		"text 0 0":           {},
		"ref 0 0 U+0000":     {Kind: token.Ref},
		"ref 1 7 U+10FFFF":   {Kind: token.Ref, From: 1, To: 7, R: 0x10ffff},
		"ref 1 7 U+D800":     {Kind: token.Ref, From: 1, To: 7, R: 0xd800},
		"start 0 0 ":         {Kind: token.Start},
		"end 0 0  /":         {Kind: token.End, Single: true},
		"start 5 9 B\n/\xff": {Kind: token.Start, From: 5, To: 9, Name: "B\n/\xff"},
		"end 10 14 h1":       {Kind: token.End, From: 10, To: 14, Name: "h1"},
		"raw 9223372036854775807 -9223372036854775808": {Kind: token.Raw, From: math.MaxInt, To: math.MinInt},
	} {
		if got := token.Print(x); got != want {
			t.Errorf("Print(%+v): %q, not %q", x, got, want)
		}
	}
}

// TestMemory has that what is given is not changed, nor read behind its end, and that answers are new.
func TestMemory(t *testing.T) { // P19.1
	const s = "a<B c='D'>&lt;\x1b[1m<!--x--><!y></B><script>e</SCRIPT>f"
	given := []byte(s)
	one, two := token.All(given), token.All(given)
	x, _ := token.At(given, 1)
	clear(one[:cap(one)])
	if string(given) != s {
		t.Errorf("changed: %q", given)
	}
	for end := range s {
		if got, want := token.All(given[:end]), token.All(bytes.Clone(given[:end])); !slices.Equal(got, want) {
			t.Errorf("All(%q): %+v, not %+v", s[:end], got, want)
		}
		holdNone(t, s[:end], end)
	}
	clear(given)
	if want := token.All([]byte(s)); !slices.Equal(two, want) || x != want[1] || x.Name != "b" {
		t.Errorf("%+v and %+v, not %+v", two, x, want)
	}
}

// TestLong has long tokens, and many: each byte must not cost as much as all bytes.
func TestLong(t *testing.T) { // P19.1, P19.3
	const many = 1 << 18
	for _, x := range []struct {
		head, again, tail string
		count             int // of tokens
		last              string
		size              int // of the last one
	}{
		{"", "a", "", 1, "text", many},
		{"", "<", "", 1, "text", many},
		{"", "&", "", 1, "text", many},
		{"", "&amp", "", 1, "text", 4 * many},
		{"", "\x1b", "", many, "escape", 1},
		{"", "\x1b[", "a", many, "escape", 3},
		{"", "a<b>", "", 2 * many, "start", 3},
		{"", "<b ", "", 1, "start", 3 * many},
		{"", "<!--", ">", 1, "comment", 4*many + 1},
		{"", "&lt;<!>", "", 2 * many, "decl", 3},
		{"<script>", "<", "", 2, "raw", many},
		{"<script>", "</s", "", 2, "raw", 3 * many},
		{"<script>", "</scripts ", "", 2, "raw", 10 * many},
		{"<script>", "</scripts ", "</script", 3, "end", 8},
		{"<style>", "</script>", "</style>", 3, "end", 8},
		{"", "<style></style>", "", 2 * many, "end", 8},
		{"", "<script>x</script>", "", 3 * many, "end", 9},
	} {
		s := x.head + strings.Repeat(x.again, many) + x.tail
		got := token.All([]byte(s))
		last := got[len(got)-1]
		if len(got) != x.count || token.Kind(last.Kind) != x.last || last.To-last.From != x.size {
			t.Errorf("%s%s..%s: %d tokens, the last one is %s", x.head, x.again, x.tail, len(got), token.Print(last))
		}
		cover(t, s, got)
		if at, ok := token.At([]byte(s), len(s)-1); at != last || !ok {
			t.Errorf("%s%s..%s: %+v, %v at the end", x.head, x.again, x.tail, at, ok)
		}
	}
}

func TestExample(t *testing.T) { // the chapter's example
	if got := lines("a<b>&lt;"); !slices.Equal(got, []string{"text 0 1", "start 1 4 b", "ref 4 8 U+003C"}) {
		t.Errorf("%q", got)
	}
}
