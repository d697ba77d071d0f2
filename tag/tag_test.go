package tag_test

import (
	"bytes"
	"math"
	"math/rand"
	"reflect"
	"slices"
	"strings"
	"testing"

	"virgule/tag"
)

// same tells whether two constructs are alike, no attributes like an empty list of them.
func same(a, b tag.Tag) bool {
	if len(a.Attrs) == 0 && len(b.Attrs) == 0 {
		a.Attrs, b.Attrs = nil, nil
	}
	return reflect.DeepEqual(a, b)
}

// list is attributes, of names and values in turn.
func list(texts ...string) []tag.Attr {
	var out []tag.Attr
	for x := range slices.Chunk(texts, 2) {
		out = append(out, tag.Attr{Name: x[0], Value: x[1]})
	}
	return out
}

// holdAll holds what is read at the beginning and further behind.
func holdAll(t *testing.T, wanted map[string]tag.Tag) {
	t.Helper()
	for s, want := range wanted {
		for _, ahead := range []string{"", "<", "a<b>", "\xff<!--"} {
			got, ok := tag.Read([]byte(ahead+s), len(ahead))
			if !same(got, want) || ok != (want.Size > 0) {
				t.Errorf("Read of %q: %+v, %v, not %+v", s, got, ok, want)
			}
		}
	}
}

func TestKinds(t *testing.T) { // P18.1
	if !slices.Equal([]int{tag.Start, tag.End, tag.Comment, tag.Decl}, []int{0, 1, 2, 3}) {
		t.Error("the kinds' numbers")
	}
	holdAll(t, map[string]tag.Tag{
		"":          {},
		"a":         {},
		">":         {},
		"<":         {},
		"<<b>":      {},
		"< b>":      {},
		"<\n":       {},
		"<1>":       {},
		"<>":        {},
		"<->":       {},
		"<=":        {},
		"<&amp;":    {},
		"<@a>":      {},
		"<[a>":      {},
		"<`a>":      {},
		"<{a>":      {},
		"<\x00":     {},
		"<\xc3\xa9": {},

		"<a":     {Kind: tag.Start, Size: 2, Name: "a"},
		"<a>":    {Kind: tag.Start, Size: 3, Name: "a", Closed: true},
		"<Z>":    {Kind: tag.Start, Size: 3, Name: "z", Closed: true},
		"</a":    {Kind: tag.End, Size: 3, Name: "a"},
		"</A>>":  {Kind: tag.End, Size: 4, Name: "a", Closed: true},
		"</z x>": {Kind: tag.End, Size: 6, Name: "z", Attrs: list("x", ""), Closed: true},
		"</b/>":  {Kind: tag.End, Size: 5, Name: "b", Single: true, Closed: true},

		"<!":       {Kind: tag.Decl, Size: 2},
		"<!>x":     {Kind: tag.Decl, Size: 3, Closed: true},
		"<?>":      {Kind: tag.Decl, Size: 3, Closed: true},
		"</>":      {Kind: tag.Decl, Size: 3, Closed: true},
		"<?":       {Kind: tag.Decl, Size: 2},
		"</":       {Kind: tag.Decl, Size: 2},
		"</ a>":    {Kind: tag.Decl, Size: 5, Closed: true},
		"</1 '>'>": {Kind: tag.Decl, Size: 6, Closed: true},
		"<//a>":    {Kind: tag.Decl, Size: 5, Closed: true},
		"<!a '>'>": {Kind: tag.Decl, Size: 6, Closed: true},
		"<?a?\n>":  {Kind: tag.Decl, Size: 6, Closed: true},
		"<?--a>":   {Kind: tag.Decl, Size: 6, Closed: true},
		"<!-":      {Kind: tag.Decl, Size: 3},
		"<!->":     {Kind: tag.Decl, Size: 4, Closed: true},
		"<!-a-->":  {Kind: tag.Decl, Size: 7, Closed: true},
		"<! -->":   {Kind: tag.Decl, Size: 6, Closed: true},

		"<!--":            {Kind: tag.Comment, Size: 4},
		"<!-->":           {Kind: tag.Comment, Size: 5},
		"<!--->":          {Kind: tag.Comment, Size: 6},
		"<!---->":         {Kind: tag.Comment, Size: 7, Closed: true},
		"<!----->":        {Kind: tag.Comment, Size: 8, Closed: true},
		"<!-->-->x":       {Kind: tag.Comment, Size: 8, Closed: true},
		"<!--a--":         {Kind: tag.Comment, Size: 7},
		"<!--a->":         {Kind: tag.Comment, Size: 7},
		"<!--a-- >b":      {Kind: tag.Comment, Size: 10},
		"<!--<!--a-->-->": {Kind: tag.Comment, Size: 12, Closed: true},
		"<!--\n>\xff-->":  {Kind: tag.Comment, Size: 10, Closed: true},
	})
}

func TestNames(t *testing.T) { // P18.1
	holdAll(t, map[string]tag.Tag{
		"<aB1-:._<\"'=!?&b>":    {Size: 17, Name: "ab1-:._<\"'=!?&b", Closed: true},
		"<a\tb>":                {Size: 5, Name: "a", Attrs: list("b", ""), Closed: true},
		"<a\nb>":                {Size: 5, Name: "a", Attrs: list("b", ""), Closed: true},
		"<a\fb>":                {Size: 5, Name: "a", Attrs: list("b", ""), Closed: true},
		"<a\rb>":                {Size: 5, Name: "a", Attrs: list("b", ""), Closed: true},
		"<a/b>":                 {Size: 5, Name: "a", Attrs: list("b", ""), Closed: true},
		"<a\vb>":                {Size: 5, Name: "a\vb", Closed: true},
		"<a\x00b>":              {Size: 5, Name: "a\x00b", Closed: true},
		"<a\u00a0b>":            {Size: 6, Name: "a\u00a0b", Closed: true},
		"<a\x85\xa0b>":          {Size: 6, Name: "a\x85\xa0b", Closed: true},
		"<a\u2003B>":            {Size: 7, Name: "a\u2003b", Closed: true},
		"<SÉ\xff\u212a\xc3>":    {Size: 10, Name: "sÉ\xff\u212a\xc3", Closed: true},
		"<a @[`{\x7f=\xc3\xff>": {Size: 12, Name: "a", Attrs: list("@[`{\x7f", "\xc3\xff"), Closed: true},
		"</P\n>":                {Kind: tag.End, Size: 5, Name: "p", Closed: true},
	})
}

func TestAttrs(t *testing.T) { // P18.1
	for s, want := range map[string][]tag.Attr{
		"":                      nil,
		" ":                     nil,
		" / \t/":                nil,
		" b":                    list("b", ""),
		" b ":                   list("b", ""),
		" B C\nd":               list("b", "", "c", "", "d", ""),
		"/b/c":                  list("b", "", "c", ""),
		" B=C":                  list("b", "C"),
		" B = \n C d":           list("b", "C", "d", ""),
		" b\t\n\f\r =\t\n\f\rc": list("b", "c"),
		" b /=c":                list("b", "", "=c", ""),
		" b/=c=d":               list("b", "", "=c", "d"),
		" =":                    list("=", ""),
		" ==":                   list("=", ""),
		" ===":                  list("=", "="),
		" =b=c":                 list("=b", "c"),
		" = b":                  list("=", "", "b", ""),
		" = =b":                 list("=", "b"),
		" b=":                   list("b", ""),
		" b= ":                  list("b", ""),
		" b==c":                 list("b", "=c"),
		" b=c=d":                list("b", "c=d"),
		" b=/c/":                list("b", "/c/"),
		" b=/ c":                list("b", "/", "c", ""),
		" b= /c":                list("b", "/c"),
		" b=c/d e":              list("b", "c/d", "e", ""),
		" b='c'":                list("b", "c"),
		` b="C>/='d' <!--"`:     list("b", "C>/='d' <!--"),
		` b='C>/="d" </a>'`:     list("b", `C>/="d" </a>`),
		` b=''c=""`:             list("b", "", "c", ""),
		` b='1'c="2"d`:          list("b", "1", "c", "2", "d", ""),
		` b='1'=2`:              list("b", "1", "=2", ""),
		` b='1''2'`:             list("b", "1", "'2'", ""),
		` b="1"/"2"`:            list("b", "1", `"2"`, ""),
		` b=c"d'e`:              list("b", `c"d'e`),
		` b=c'd e'`:             list("b", "c'd", "e'", ""),
		` "b c"`:                list(`"b`, "", `c"`, ""),
		` 'b'='c'`:              list("'b'", "c"),
		` b<c=<d`:               list("b<c", "<d"),
		" <b !--":               list("<b", "", "!--", ""),
		" É=É B\xff=\xffB":      list("É", "É", "b\xff", "\xffB"),
		" b=\x00 \x00=1":        list("b", "\x00", "\x00", "1"),
		" b=\vc\v":              list("b", "\vc\v"),
		" b=1 b=2 B=3 c":        list("b", "1", "b", "2", "b", "3", "c", ""),
		" b=&amp; c=\x1b[1m":    list("b", "&amp;", "c", "\x1b[1m"),
		" Class=x a=\"1>2\"/":   list("class", "x", "a", "1>2"),
		" b=\"\n \t\"c":         list("b", "\n \t", "c", ""),
	} {
		for kind, head := range []string{"<tag", "</tag"} {
			for _, tail := range []string{"", ">", "><b c=\"d\">"} {
				x := tag.Tag{Kind: kind, Size: len(head + s), Name: "tag", Attrs: want}
				if tail != "" {
					x.Size++
					x.Closed = true
				}
				got, ok := tag.Read([]byte(head+s+tail), 0)
				got.Single = false // TestSingle has this
				if !ok || !same(got, x) {
					t.Errorf("Read(%q): %+v, %v, not %+v", head+s+tail, got, ok, x)
				}
			}
		}
	}
}

func TestOpen(t *testing.T) { // P18.1: constructs whose end is missing
	holdAll(t, map[string]tag.Tag{
		"<ab/":           {Size: 4, Name: "ab"},
		"<a b=c/":        {Size: 7, Name: "a", Attrs: list("b", "c/")},
		"<a b='c>":       {Size: 8, Name: "a", Attrs: list("b", "c>")},
		"<a b='":         {Size: 6, Name: "a", Attrs: list("b", "")},
		"<a b=\"c'/>\n":  {Size: 11, Name: "a", Attrs: list("b", "c'/>\n")},
		"<a b='c\">d=1>": {Size: 13, Name: "a", Attrs: list("b", "c\">d=1>")},
		"<a b='c'/ d = ": {Size: 14, Name: "a", Attrs: list("b", "c", "d", "")},
		"</a b=\"c/>":    {Kind: tag.End, Size: 10, Name: "a", Attrs: list("b", "c/>")},
		`<a "=">b`:       {Size: 8, Name: "a", Attrs: list(`"`, ">b")},
		"<a <b":          {Size: 5, Name: "a", Attrs: list("<b", "")},
	})
}

func TestSingle(t *testing.T) { // P18.1
	for s, want := range map[string]bool{
		"<a/>":            true,
		"<a />":           true,
		"<a//>":           true,
		"<a/\n/>":         true,
		"<a b/>":          true,
		"<a b />":         true,
		"<a b='c'/>":      true,
		"<a b=\"/\"/>":    true,
		"<a b=c />":       true,
		"<a b=// />":      true,
		"<a =/>":          true,
		"<a b /c />":      true,
		"</a/>":           true,
		"</a b='c' />":    true,
		"<a>":             false,
		"<a >":            false,
		"<a/ >":           false,
		"<a/\t>":          false,
		"<a/b>":           false,
		"<a b=/>":         false,
		"<a b= />":        false,
		"<a b=c/>":        false,
		"<a b=>":          false,
		"<a b='/'>":       false,
		"<a b='c'/ >":     false,
		"<a ==/>":         false,
		"<a / b =\n//>":   false,
		"<a b=\"c'/>'\">": false,
		"<a/":             false,
		"<a b='/>":        false,
		"<!/>":            false,
		"<?a/>":           false,
		"<//>":            false,
		"<!--/-->":        false,
	} {
		got, ok := tag.Read([]byte(s), 0)
		if !ok || got.Single != want || got.Size != len(s) {
			t.Errorf("Read(%q): %+v, %v", s, got, ok)
		}
	}
}

func TestOffsets(t *testing.T) { // P18.1: no such offset
	for _, s := range []string{"", "<", "<a>", "<a", "<!--a-->", "</"} {
		for _, at := range []int{-1, -len(s), math.MinInt, math.MinInt + 1, len(s), len(s) + 1, 1 << 32, math.MaxInt - 1, math.MaxInt} {
			if at == 0 && s != "" {
				continue
			}
			if got, ok := tag.Read([]byte(s), at); ok || !same(got, tag.Tag{}) {
				t.Errorf("Read(%q, %d): %+v, %v", s, at, got, ok)
			}
		}
	}
	if got, ok := tag.Read(nil, 0); ok || !same(got, tag.Tag{}) {
		t.Errorf("nothing: %+v", got)
	}
}

func TestLower(t *testing.T) { // P18.1
	for c := range 256 {
		want := byte(c)
		if i := strings.IndexByte("ABCDEFGHIJKLMNOPQRSTUVWXYZ", want); i >= 0 {
			want = "abcdefghijklmnopqrstuvwxyz"[i]
		}
		for _, around := range []string{"", "x", "Ä", "\xc3"} {
			s := around + string([]byte{byte(c)}) + around
			if got := tag.Lower(s); got != around+string([]byte{want})+around {
				t.Errorf("Lower(%q): %q", s, got)
			}
		}
	}
	for s, want := range map[string]string{"": "", "AbC-9Z": "abc-9z", "ÄB\u0130\u212aK": "Äb\u0130\u212ak", "\xff\xc3A\xe2\x82": "\xff\xc3a\xe2\x82"} {
		if got := tag.Lower(s); got != want {
			t.Errorf("Lower(%q): %q, not %q", s, got, want)
		}
	}
}

func TestValue(t *testing.T) { // P18.2
	x := tag.Tag{Attrs: list("b", "1", "c", "", "b", "2", "B", "3", "", "4", "=\xff", "5")}
	for _, kind := range []int{tag.Start, tag.End, tag.Comment, tag.Decl, -1, 9} {
		x.Kind = kind
		for name, want := range map[string]string{"b": "1", "c": "", "B": "3", "": "4", "=\xff": "5"} {
			if got, ok := tag.Value(x, name); got != want || !ok {
				t.Errorf("Value of %q: %q, %v", name, got, ok)
			}
		}
		for _, name := range []string{"a", "C", "bc", "b ", " b", "1", "=", "=\xfe", "=\ufffd"} {
			if got, ok := tag.Value(x, name); got != "" || ok {
				t.Errorf("Value of %q: %q, %v", name, got, ok)
			}
		}
	}
	for _, attrs := range [][]tag.Attr{nil, {}} {
		if got, ok := tag.Value(tag.Tag{Name: "b", Attrs: attrs}, ""); got != "" || ok {
			t.Errorf("Value of none: %q, %v", got, ok)
		}
	}
	y, _ := tag.Read([]byte("<a B=1 b=2>"), 0)
	if got, ok := tag.Value(y, "b"); got != "1" || !ok {
		t.Errorf("Value of the first b: %q, %v", got, ok)
	}
	if got, ok := tag.Value(y, "B"); got != "" || ok {
		t.Errorf("Value of B: %q, %v", got, ok)
	}
}

func TestWrite(t *testing.T) { // P18.2
	for want, x := range map[string]tag.Tag{
		"<b>":                    {Name: "b"},
		"</b>":                   {Kind: tag.End, Name: "b"},
		"<b />":                  {Name: "b", Single: true},
		"</b />":                 {Kind: tag.End, Name: "b", Single: true},
		"<h1>":                   {Kind: tag.Start, Name: "h1", Size: 99, Closed: true},
		"<az09>":                 {Name: "az09", Size: -1, Attrs: []tag.Attr{}},
		`<a b="">`:               {Name: "a", Attrs: list("b", "")},
		`<a b="1" c2="x" b="2">`: {Name: "a", Attrs: list("b", "1", "c2", "x", "b", "2")},
		`</a b="1" />`:           {Kind: tag.End, Name: "a", Attrs: list("b", "1"), Single: true},
		"<a b=\"'>/<&\n\xff\">":  {Name: "a", Attrs: list("b", "'>/<&\n\xff")},
		`<a b="/" />`:            {Name: "a", Attrs: list("b", "/"), Single: true},
	} {
		if got := tag.Write(x); got != want {
			t.Errorf("Write(%+v): %q, not %q", x, got, want)
		}
	}
}

// written tells whether a name may be written.
func written(name string) bool {
	rest := strings.TrimLeft(name, "abcdefghijklmnopqrstuvwxyz")
	return len(rest) < len(name) && strings.Trim(rest, "abcdefghijklmnopqrstuvwxyz0123456789") == ""
}

func TestWriteNone(t *testing.T) { // P18.2
	for _, kind := range []int{tag.Comment, tag.Decl, 4, -1, math.MinInt, math.MaxInt, 1 << 32} {
		if got := tag.Write(tag.Tag{Kind: kind, Name: "b"}); got != "" {
			t.Errorf("Write of kind %d: %q", kind, got)
		}
	}
	names := []string{"", "b c", "é", "aé", "1", "1a", "-", "a-b", "a:b", "a/", "a>", "a=", "a\n"}
	for c := range 256 {
		b := string([]byte{byte(c)})
		names = append(names, b, b+"a", "a"+b, "a1"+b, "a"+b+"1")
	}
	for _, name := range names {
		for kind, head := range []string{"<", "</"} {
			want, wantAttr := "", ""
			if written(name) {
				want, wantAttr = head+name+">", head+`b c="" `+name+`="1">`
			}
			if got := tag.Write(tag.Tag{Kind: kind, Name: name}); got != want {
				t.Errorf("Write of the name %q: %q", name, got)
			}
			if got := tag.Write(tag.Tag{Kind: kind, Name: "b", Attrs: list("c", "", name, "1")}); got != wantAttr {
				t.Errorf("Write of an attribute %q: %q", name, got)
			}
		}
	}
	for c := range 256 {
		for _, value := range []string{string([]byte{byte(c)}), string([]byte{'a', byte(c), 'b'})} {
			want := `<b c="1" d="` + value + `" e="2">`
			if c == '"' {
				want = ""
			}
			if got := tag.Write(tag.Tag{Name: "b", Attrs: list("c", "1", "d", value, "e", "2")}); got != want {
				t.Errorf("Write of a value %q: %q", value, got)
			}
		}
	}
}

func TestReadBack(t *testing.T) { // P18.3: what is written can be read
	rng := rand.New(rand.NewSource(3))
	text := func(from string, least int) string {
		var b []byte
		for range least + rng.Intn(4) {
			b = append(b, from[rng.Intn(len(from))])
		}
		return string(b)
	}
	const letters = "abkyz"
	for range 40000 {
		x := tag.Tag{Kind: rng.Intn(2), Name: text(letters, 1) + text("az0189", 0), Single: rng.Intn(2) == 0}
		for range rng.Intn(4) {
			x.Attrs = append(x.Attrs, tag.Attr{Name: text(letters, 1) + text("az09", 0), Value: text("aZ >/='<!-\n\t&;\x00\xff\x1b", 0)})
		}
		s := tag.Write(x)
		x.Size, x.Closed = len(s), true
		for _, tail := range []string{"", ">", "/>", " a='", "\"", "-->"} {
			if got, ok := tag.Read([]byte("<"+s+tail), 1); !ok || !same(got, x) {
				t.Fatalf("Read(%q): %+v, %v, not %+v", s+tail, got, ok, x)
			}
		}
		if again := tag.Write(x); again != s {
			t.Fatalf("Write(%+v): %q, not %q", x, again, s)
		}
		for _, a := range x.Attrs {
			first := slices.IndexFunc(x.Attrs, func(b tag.Attr) bool { return b.Name == a.Name })
			if got, ok := tag.Value(x, a.Name); !ok || got != x.Attrs[first].Value {
				t.Fatalf("Value(%+v, %q): %q, %v", x, a.Name, got, ok)
			}
		}
	}
}

// TestMemory has that what is given is not changed, nor read behind its end, and that answers are new.
func TestMemory(t *testing.T) { // P18.1, P18.2
	const s = "<A Bc=\"De\" f=G/>"
	given := []byte(s + s)
	one, _ := tag.Read(given, 0)
	two, _ := tag.Read(given, 0)
	clear(one.Attrs[:cap(one.Attrs)])
	if !bytes.Equal(given, []byte(s+s)) {
		t.Errorf("changed: %q", given)
	}
	clear(given)
	if want := (tag.Tag{Size: len(s), Name: "a", Attrs: list("bc", "De", "f", "G/"), Closed: true}); !same(two, want) {
		t.Errorf("%+v, not %+v", two, want)
	}
	for _, s := range []string{s, "</a b='c'>", "<!--a-->", "<!a>", "<a/>"} {
		given := []byte(s)
		for end := range s {
			got, ok := tag.Read(given[:end], 0)
			want, wantOK := tag.Read(bytes.Clone(given[:end]), 0)
			if ok != wantOK || !same(got, want) || got.Closed || got.Size != end && ok {
				t.Errorf("Read(%q): %+v, %v", s[:end], got, ok)
			}
		}
	}
	l := append(make([]tag.Attr, 0, 9), list("b", "1", "c", "2")...)
	x := tag.Tag{Name: "a", Attrs: l[:1]}
	if got := tag.Write(x); got != `<a b="1">` || !slices.Equal(l, list("b", "1", "c", "2")) {
		t.Errorf("Write: %q, %q", got, l)
	}
	if _, ok := tag.Value(x, "c"); ok {
		t.Error("Value behind the attributes")
	}
}

// TestLong has constructs of many bytes, and of many parts.
func TestLong(t *testing.T) { // P18.1, P18.2
	const many = 1 << 20
	text := strings.Repeat("a", many)
	for s, want := range map[string]tag.Tag{
		"<" + text:                          {Size: many + 1, Name: text},
		"<" + strings.ToUpper(text) + "/>":  {Size: many + 3, Name: text, Single: true, Closed: true},
		"<b " + text + "=" + text + ">":     {Size: 2*many + 5, Name: "b", Attrs: list(text, text), Closed: true},
		"<b c='" + text:                     {Size: many + 6, Name: "b", Attrs: list("c", text)},
		"<b" + strings.Repeat("/", many):    {Size: many + 2, Name: "b"},
		"<!--" + strings.Repeat("-", many):  {Kind: tag.Comment, Size: many + 4},
		"<!" + text + ">":                   {Kind: tag.Decl, Size: many + 3, Closed: true},
		"</" + strings.Repeat("<", many):    {Kind: tag.Decl, Size: many + 2},
		"</b" + strings.Repeat(" ", many):   {Kind: tag.End, Size: many + 3, Name: "b"},
		"<b" + strings.Repeat(" =", many/2): {Size: many + 2, Name: "b", Attrs: slices.Repeat(list("=", "="), many/6)},
	} {
		got, ok := tag.Read([]byte(s), 0)
		if len(want.Attrs) > 2 {
			want.Attrs = got.Attrs
			if len(got.Attrs) != (many/2+2)/3 || got.Attrs[0] != (tag.Attr{Name: "=", Value: "="}) {
				t.Errorf("Read(%.9q): %d attributes", s, len(got.Attrs))
			}
		}
		if !ok || !same(got, want) {
			t.Errorf("Read(%.9q): a tag of %d bytes, %d attributes", s, got.Size, len(got.Attrs))
		}
	}
	x := tag.Tag{Name: text, Attrs: slices.Repeat(list("c", "d"), many/8)}
	s := tag.Write(x)
	x.Size, x.Closed = len(s), true
	if got, ok := tag.Read([]byte(s), 0); !ok || !same(got, x) {
		t.Errorf("Read back: a tag of %d bytes, %d attributes", got.Size, len(got.Attrs))
	}
}

func TestExample(t *testing.T) { // the chapter's example
	got, ok := tag.Read([]byte(`<B Class=x a="1>2"/>`), 0)
	want := tag.Tag{Kind: tag.Start, Size: 20, Name: "b", Attrs: list("class", "x", "a", "1>2"), Single: true, Closed: true}
	if !ok || !same(got, want) {
		t.Errorf("%+v, %v", got, ok)
	}
}
