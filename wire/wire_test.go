package wire_test

import (
	"bytes"
	"hash/fnv"
	"math"
	"math/rand"
	"slices"
	"testing"

	"virgule/api"
	"virgule/pack"
	"virgule/table"
	"virgule/wire"
)

// read is the table of a rule text.
func read(t *testing.T, s string) table.Table {
	t.Helper()
	x, at, err := table.Read(s)
	if err != api.OK {
		t.Fatalf("%q: %d, %d", s, at, err)
	}
	return x
}

// texts is rule texts.
func texts() []string {
	return []string{
		"", "!", "/", "CR ! LF", "L* ! V\nV / L", "^ L (V|T)* ! any any? V\n/ CR",
		"ignore Extend Gap\nkeep LF Other\nCR ! LF\n(L V)* ! T\n~L V* / V T V T\n^ ! Space",
		"keep Gap\nlet a = Upper|Lower\na ! a\na Dot+ ! Space? Upper\n/",
		"(Regional Regional)* Regional ! Regional\n~Regional (Regional Regional)* Regional ! Regional",
	}
}

// TestWritten has encodings written out.
func TestWritten(t *testing.T) {
	zeros := func(count int) []byte { return make([]byte, count) }
	for s, want := range map[string][]byte{
		"": slices.Concat([]byte{0, 0, 0, 0}, []byte{37}, zeros(37),
			[]byte{1, 1, 0, 1, 0, 0, 0, 1, 0},
			[]byte{1, 1, 0, 1, 0, 0, 0, 1, 0}),
		"CR ! LF": slices.Concat([]byte{1, 0, 0, 0}, []byte{37, 0, 1, 2}, zeros(34),
			[]byte{3, 2, 0, 0, 2, 0, 1, 3, 0, 1, 2, 3, 0, 1, 1, 2, 0, 1},
			[]byte{3, 3, 1, 1, 1, 3, 0, 0, 0, 3, 0, 0, 1, 3, 0, 0, 2, 3, 0, 0, 1}),
		"ignore Gap CR Other\nkeep LF Gap\n^ ! LF\n/": slices.Concat(
			[]byte{2, 0x83, 0x80, 0x80, 0x80, 0x80, 1, 0x84, 0x80, 0x80, 0x80, 0x80, 1, 2}, []byte{37, 0, 0, 1}, zeros(33), []byte{2},
			[]byte{3, 2, 0, 0, 2, 0, 1, 4, 0, 0, 1, 2, 4, 0, 0, 1, 1, 2, 2, 3},
			[]byte{3, 3, 1, 1, 1, 3, 0, 0, 0, 2, 0, 1, 2, 0, 2, 3, 2, 0, 1}),
	} {
		b, err := wire.Encode(read(t, s))
		if err != api.OK || !bytes.Equal(b, whole(want)) {
			t.Errorf("%q: %d, %x, not %x", s, err, b, whole(want))
		}
		holdDecode(t, s, whole(want))
	}
	// The sum is written out too, its least significant byte first.
	sum := []byte{0xb4, 0x6f, 0x19, 0x03, 0xd4, 0xf6, 0xbf, 0x9a}
	if b, _ := wire.Encode(read(t, "")); !bytes.Equal(b[len(b)-8:], sum) {
		t.Errorf("%x, not %x", b[len(b)-8:], sum)
	}
}

func TestSum(t *testing.T) {
	for s, want := range map[string]uint64{
		"": 14695981039346656037, "a": 0xaf63dc4c8601ec8c, "foobar": 0x85944171f73967e8, "\x00": 0xaf63bd4c8601b7df,
	} {
		if got := wire.Sum([]byte(s)); got != want {
			t.Errorf("%q: %d, not %d", s, got, want)
		}
	}
	rng := rand.New(rand.NewSource(1))
	for length := range 300 {
		b := make([]byte, length)
		rng.Read(b)
		sum := fnv.New64a()
		sum.Write(b)
		if got := wire.Sum(b); got != sum.Sum64() {
			t.Errorf("%x: %d, not %d", b, got, sum.Sum64())
		}
	}
}

func TestEncode(t *testing.T) {
	for _, s := range texts() {
		holdEncode(t, s, read(t, s))
	}
	rng := rand.New(rand.NewSource(2))
	for range 300 {
		holdEncode(t, "random", randomTable(rng, 300, 400))
	}
}

// TestNumbers has numbers on both sides of where their encodings grow.
func TestNumbers(t *testing.T) {
	for _, n := range []int{0, 1, 126, 127, 128, 129, 255, 256, 16382, 16383, 16384, 16385, 65534, 65535} {
		x := read(t, "CR ! LF")
		x.Left.Check, x.Left.Next = append(x.Left.Check, -1), append(x.Left.Next, n)
		x.Right.Base[1] = n
		holdEncode(t, "a free slot's Next, and a base", x)
	}
	for _, bit := range []int{0, 6, 7, 8, 13, 14, 20, 21, 27, 28, 31, 32, 34, 35} {
		for _, set := range []uint64{1 << bit, 1<<bit - 1, 1<<36 - 1<<bit} {
			x := read(t, "CR ! LF")
			x.Ignore, x.Keep = set, 1<<36-1-set
			holdEncode(t, "Ignore and Keep", x)
			x.Rules, x.Break, x.Left.Tells[1], x.Right.Tells[2] = 40, set<<4, 1<<40-1-set, set
			holdEncode(t, "Break and Tells", x)
		}
	}
	for _, count := range []int{1, 126, 127, 128, 129, 500, 1000} {
		x := read(t, "/ L")
		for _, p := range []*table.Part{&x.Left, &x.Right} {
			p.Usual, p.Base = slices.Repeat([]int{count - 1}, count), make([]int, count)
			p.Check, p.Next = []int{count - 1}, []int{0}
			p.Tells = slices.Repeat([]uint64{1}, count)
		}
		holdEncode(t, "rows", x)
	}
	for _, slots := range []int{127, 128, 129, 16383, 16384, 65599} {
		x := read(t, "CR ! LF")
		grow(&x.Left, slots)
		grow(&x.Right, slots)
		holdEncode(t, "slots", x)
	}
}

// grow adds free slots to a part, up to so many.
func grow(p *table.Part, slots int) {
	for len(p.Check) < slots {
		p.Check, p.Next = append(p.Check, -1), append(p.Next, 0)
	}
}

// wrong is changes of which each makes the table of CR ! LF wrong.
func wrong() map[string]func(x *table.Table) {
	out := map[string]func(x *table.Table){
		"nothing":               func(x *table.Table) { *x = table.Table{} },
		"rules below 0":         func(x *table.Table) { x.Rules = -1 },
		"the least number":      func(x *table.Table) { x.Rules = math.MinInt },
		"too many rules":        func(x *table.Table) { x.Rules = 41 },
		"the greatest number":   func(x *table.Table) { x.Rules = math.MaxInt },
		"less rules":            func(x *table.Table) { x.Rules = 0 },
		"ignored, no class":     func(x *table.Table) { x.Ignore = 1 << 36 },
		"keeping, no class":     func(x *table.Table) { x.Keep = math.MaxUint64 },
		"breaking, no rule":     func(x *table.Table) { x.Break = 2 },
		"no groups":             func(x *table.Table) { x.Groups = nil },
		"36 symbols":            func(x *table.Table) { x.Groups = x.Groups[:36] },
		"38 symbols":            func(x *table.Table) { x.Groups = append(x.Groups, 0) },
		"no grouping":           func(x *table.Table) { x.Groups[5] = 9 },
		"a group below 0":       func(x *table.Table) { x.Groups[5] = -1 },
		"a width for one group": func(x *table.Table) { x.Groups = make([]int, 37) },
	}
	for name, part := range map[string]func(x *table.Table) *table.Part{
		"left ":  func(x *table.Table) *table.Part { return &x.Left },
		"right ": func(x *table.Table) *table.Part { return &x.Right },
	} {
		for what, change := range wrongParts() {
			out[name+what] = func(x *table.Table) { change(part(x)) }
		}
	}
	return out
}

// wrongParts is changes of which each makes a part of the table of CR ! LF wrong.
func wrongParts() map[string]func(p *table.Part) {
	return map[string]func(p *table.Part){
		"nothing":            func(p *table.Part) { *p = table.Part{} },
		"no row":             func(p *table.Part) { *p = table.Part{Packed: pack.Packed{Width: 3}} },
		"width 0":            func(p *table.Part) { p.Width = 0 },
		"a lesser width":     func(p *table.Part) { p.Width = 2 },
		"a width below 0":    func(p *table.Part) { p.Width = -3 },
		"less Tells":         func(p *table.Part) { p.Tells = p.Tells[1:] },
		"more Tells":         func(p *table.Part) { p.Tells = append(p.Tells, 0) },
		"no rule":            func(p *table.Part) { p.Tells[0] = 2 },
		"the last bit":       func(p *table.Part) { p.Tells[0] = 1 << 63 },
		"Usual, no row":      func(p *table.Part) { p.Usual[1] = len(p.Usual) },
		"Usual below 0":      func(p *table.Part) { p.Usual[1] = -1 },
		"a base below 0":     func(p *table.Part) { p.Base[1] = -1 },
		"too great a base":   func(p *table.Part) { p.Base[1] = 65536 },
		"less bases":         func(p *table.Part) { p.Base = p.Base[1:] },
		"Check below -1":     func(p *table.Part) { p.Check[0] = -2 },
		"Check, no row":      func(p *table.Part) { p.Check[0] = len(p.Usual) },
		"more Check":         func(p *table.Part) { p.Check = append(p.Check, -1) },
		"more Next":          func(p *table.Part) { p.Next = append(p.Next, 0) },
		"Next, no row":       func(p *table.Part) { p.Next[slices.Index(p.Check, 0)] = len(p.Usual) },
		"Next below 0":       func(p *table.Part) { p.Next[0] = -1 },
		"too great a Next":   func(p *table.Part) { p.Next[0] = 65536 },
		"too many slots":     func(p *table.Part) { grow(p, 65600) },
		"too many rows":      func(p *table.Part) { lengthen(p, 1001) },
		"Usual of all int":   func(p *table.Part) { p.Usual[0] = math.MaxInt },
		"Usual behind int32": func(p *table.Part) { p.Usual[0] = 1 << 32 },
		"Check of all int":   func(p *table.Part) { p.Check[0] = math.MaxInt },
		"Check of least int": func(p *table.Part) { p.Check[0] = math.MinInt },
	}
}

// lengthen adds rows without slots to a part, up to so many.
func lengthen(p *table.Part, rows int) {
	for len(p.Usual) < rows {
		p.Usual, p.Base, p.Tells = append(p.Usual, 0), append(p.Base, 0), append(p.Tells, 0)
	}
}

// TestWrong has tables that are not valid, and what their encodings would be.
func TestWrong(t *testing.T) {
	for what, change := range wrong() {
		x := read(t, "CR ! LF")
		change(&x)
		if b, err := wire.Encode(x); err != api.ErrArg || len(b) != 0 {
			t.Errorf("%s: %d, %x", what, err, b)
		}
		if holdDecode(t, what, encoding(x)) {
			t.Errorf("%s: Decode", what)
		}
	}
}

// TestKept has that arguments are neither changed nor kept, and that what is answered shares nothing.
func TestKept(t *testing.T) {
	x := read(t, "ignore Extend\nCR ! LF\nL* ! V")
	x.Left.Check = append(make([]int, 0, 999), x.Left.Check...)
	x.Right.Tells = append(make([]uint64, 0, 999), x.Right.Tells...)
	before := copied(x)
	b := holdEncode(t, "before", x)
	spare := append(x.Left.Check[len(x.Left.Check):999:999], x.Right.Base...)
	if !table.Same(x, before) || slices.ContainsFunc(spare[:500], func(n int) bool { return n != 0 }) {
		t.Fatal("Encode changed its table")
	}
	again := holdEncode(t, "again", x)
	clear(again[:cap(again)])
	holdEncode(t, "behind", x)

	given := append(append(make([]byte, 0, 999), b...), 7, 7, 7, 7)[:len(b)]
	one, _ := wire.Decode(given)
	two, _ := wire.Decode(given)
	if !bytes.Equal(given, b) || !bytes.Equal(given[:len(b)+4][len(b):], []byte{7, 7, 7, 7}) {
		t.Fatal("Decode changed its bytes")
	}
	clear(given[:cap(given)])
	for _, p := range []*table.Part{&one.Left, &one.Right} {
		for _, l := range lists(p) {
			clear((*l)[:cap(*l)])
		}
	}
	if !table.Same(two, before) || !slices.Equal(one.Groups, before.Groups) || !slices.Equal(one.Left.Tells, before.Left.Tells) {
		t.Fatal("Decode kept its bytes, or its tables share lists")
	}
}
