package entity_test

import (
	"bytes"
	"math"
	"math/rand"
	"regexp"
	"slices"
	"strconv"
	"strings"
	"testing"

	"virgule/entity"
	"virgule/scalar"
)

// named is the chapter's list of names.
const named = `amp 0026, apos 0027, copy 00a9, emsp 2003, ensp 2002, gt 003e, hellip 2026, laquo 00ab, ldquo 201c, lrm 200e, lsquo 2018, lt 003c, mdash 2014, middot 00b7, nbsp 00a0, ndash 2013, quot 0022, raquo 00bb, rdquo 201d, reg 00ae, rlm 200f, rsquo 2019, shy 00ad, thinsp 2009, zwj 200d, zwnj 200c`

// model knows references by the chapter's words.
type model struct {
	names   []string
	scalars map[string]rune
	whole   *regexp.Regexp // what begins with a reference
	ends    []string       // for each beginning of a reference there is one that ends it
}

func newModel() model {
	m := model{scalars: map[string]rune{}, ends: []string{";", "0;", "#0;"}}
	for entry := range strings.SplitSeq(named, ", ") {
		name, hex, _ := strings.Cut(entry, " ")
		n, err := strconv.ParseInt(hex, 16, 32)
		if err != nil {
			panic(err)
		}
		m.names, m.scalars[name] = append(m.names, name), rune(n)
		for i := range name {
			m.ends = append(m.ends, name[i:]+";")
		}
	}
	slices.Sort(m.ends)
	m.ends = slices.Compact(m.ends)
	m.whole = regexp.MustCompile(`^&(?:#([0-9]{1,7})|#[xX]([0-9a-fA-F]{1,6})|(` + strings.Join(m.names, "|") + `));`)
	return m
}

func isScalar(n int64) bool {
	return 0 <= n && n <= 0x10ffff && (n < 0xd800 || n > 0xdfff)
}

// read is the reference that b begins with, and its size; 0 and 0 if there is none.
func (m model) read(b []byte) (rune, int) {
	x := m.whole.FindSubmatch(b)
	if x == nil {
		return 0, 0
	}
	if x[3] != nil {
		return m.scalars[string(x[3])], len(x[0])
	}
	base := 10
	if x[2] != nil {
		base = 16
	}
	n, err := strconv.ParseInt(string(x[1])+string(x[2]), base, 64)
	if err != nil {
		panic(err)
	}
	if n == 0 || !isScalar(n) {
		return 0xfffd, len(x[0])
	}
	return rune(n), len(x[0])
}

// open tells whether b could become a reference: whether one of the ends makes one of it.
func (m model) open(b []byte) bool {
	if _, size := m.read(b); size > 0 || len(b) == 0 || b[0] != '&' {
		return false
	}
	if len(b) > 1 && !strings.Contains("#aceghlmnqrstz", string(b[1:2])) {
		return false // what is behind the & begins no number and no name: the ends needn't be tried
	}
	return slices.ContainsFunc(m.ends, func(end string) bool {
		whole := slices.Concat(b, []byte(end))
		_, size := m.read(whole)
		return size == len(whole)
	})
}

// hold holds Read at each offset of b, and Open, against the model.
func (m model) hold(t *testing.T, b []byte) {
	t.Helper()
	for at := range b {
		m.holdAt(t, b, at)
	}
	if got := entity.Open(b); got != m.open(b) {
		t.Fatalf("Open(%q): %v", b, got)
	}
}

func (m model) holdAt(t *testing.T, b []byte, at int) {
	t.Helper()
	r, size := m.read(b[at:])
	if gotR, gotSize := entity.Read(b, at); gotR != r || gotSize != size {
		t.Fatalf("Read(%q, %d): %x, %d, not %x, %d", b, at, gotR, gotSize, r, size)
	}
}

// each hands on all texts of up to so many of some pieces.
func each(most int, pieces []string, do func(b []byte)) {
	var grow func(b []byte, more int)
	grow = func(b []byte, more int) {
		do(b)
		if more == 0 {
			return
		}
		for _, p := range pieces {
			grow(append(b[:len(b):len(b)], p...), more-1)
		}
	}
	grow(nil, most)
}

func TestShort(t *testing.T) { // P16.1, for all short texts
	m := newModel()
	each(4, strings.Split("&#xX;019afAFgmpt\n\x1b\x00\x80", ""), func(b []byte) { m.hold(t, b) })
	each(2, strings.Split("&#xX;09afAFGgmpt", ""), func(b []byte) {
		for _, head := range []string{"&#00000", "&#x0000", "&#X10ff", "&#55", "&#xd8", "&am", "&zw", "&l", "&thins", "&helli"} {
			m.hold(t, append([]byte(head), b...))
		}
	})
	for first := range 256 {
		for _, head := range []string{"", "&", "&#", "&#x", "&#X", "&#1", "&#xa", "&am", "&#x10FFF"} {
			for second := range 256 {
				if second%16 == 11 || head == "&" { // the ; is one of these
					m.hold(t, append([]byte(head), byte(first), byte(second)))
				}
			}
		}
	}
}

func TestPieces(t *testing.T) { // P16.1, for references behind one another, and damaged ones
	m := newModel()
	pieces := []string{"&", "#", "x", "X", ";", "amp", "&amp;", "&#0;", "&#x41", "1114111", "10ffff", "zwj", "n", "<", "a&b"}
	each(4, pieces, func(b []byte) { m.hold(t, b) })
	rng := rand.New(rand.NewSource(1))
	for range 100000 {
		var b []byte
		for range rng.Intn(12) {
			b = append(b, pieces[rng.Intn(len(pieces))]...)
			if rng.Intn(4) == 0 {
				b[rng.Intn(len(b))] = byte(rng.Intn(256))
			}
		}
		m.hold(t, b)
	}
}

func TestNames(t *testing.T) { // P16.1, P16.2: each name, and what differs from one a little
	m := newModel()
	if got := entity.Names(); !slices.Equal(got, m.names) || !slices.IsSorted(got) {
		t.Errorf("Names: %q", got)
	}
	for name, r := range m.scalars {
		if got, ok := entity.Find(name); got != r || !ok {
			t.Errorf("Find(%q): %x, %v", name, got, ok)
		}
		if got := entity.Write(r); got != "&"+name+";" {
			t.Errorf("Write(%x): %q", r, got)
		}
		whole := "&" + name + ";"
		if got, size := entity.Read([]byte("a"+whole+"b"), 1); got != r || size != len(whole) {
			t.Errorf("Read of %s: %x, %d", whole, got, size)
		}
		for end := 1; end < len(whole); end++ {
			if !entity.Open([]byte(whole[:end])) {
				t.Errorf("Open(%q): false", whole[:end])
			}
			for c := range 256 {
				changed := []byte(whole)
				changed[end] = byte(c)
				m.hold(t, changed)
				m.hold(t, slices.Insert([]byte(whole), end, byte(c)))
				m.hold(t, slices.Insert([]byte(whole[:end]), end, byte(c)))
			}
		}
	}
}

func TestFindNone(t *testing.T) { // P16.2
	m := newModel()
	for _, s := range []string{"", " ", ";", "&", "#", "a", "am", "amp;", "&amp", "&amp;", "AMP", "Amp", "amp ", " amp", "amps", "zw", "zwnjj", "#38", "#x26", "\x00", "ampapos", "amp apos", "\xff"} {
		if r, ok := entity.Find(s); r != 0 || ok {
			t.Errorf("Find(%q): %x, %v", s, r, ok)
		}
	}
	for _, name := range m.names {
		for i := range name {
			for _, s := range []string{name[:i], name[:i] + name[i+1:], name[:i] + strings.ToUpper(name[i:]), name + name[:i+1]} {
				r, known := m.scalars[s]
				if got, ok := entity.Find(s); got != r || ok != known {
					t.Errorf("Find(%q): %x, %v", s, got, ok)
				}
			}
		}
	}
}

func TestNamesAnew(t *testing.T) { // P16.2: what is done to an answer is not seen in another one
	want := newModel().names
	got := entity.Names()
	clear(got[:cap(got)])
	if again := entity.Names(); !slices.Equal(again, want) {
		t.Errorf("Names: %q", again)
	}
}

// TestNumbers reads every number that may be written, with few digits and with all of them.
func TestNumbers(t *testing.T) { // P16.1
	hold := func(n int64, s string, want bool) {
		r, size := rune(n), len(s)
		if n == 0 || !isScalar(n) {
			r = 0xfffd
		}
		if !want {
			r, size = 0, 0
		}
		if gotR, gotSize := entity.Read([]byte(s), 0); gotR != r || gotSize != size {
			t.Fatalf("Read of %s: %x, %d, not %x, %d", s, gotR, gotSize, r, size)
		}
	}
	zeros := func(s string, length int) string { return strings.Repeat("0", max(0, length-len(s))) + s }
	numbers := []int64{0x7fffffff, 0x80000000, 0x80000041, 0xffffffff, 0x100000000, 0x100000041, 1 << 40, 1<<40 + 65, math.MaxInt64}
	for n := int64(0); n < 0x111000; n++ {
		numbers = append(numbers, n)
	}
	for n := int64(0x111000); n < 0x1100000; n += 997 {
		numbers = append(numbers, n, n/10*10+9)
	}
	for _, n := range append(numbers, 0x1000041, 0xffffff, 0x1000000, 9999999, 10000000, 10000065) {
		digits, hexes := strconv.FormatInt(n, 10), strconv.FormatInt(n, 16)
		hold(n, "&#"+digits+";", n <= 9999999)
		hold(n, "&#x"+hexes+";", n <= 0xffffff)
		hold(n, "&#X"+strings.ToUpper(hexes)+";", n <= 0xffffff)
		hold(n, "&#"+zeros(digits, 7)+";", n <= 9999999)
		hold(n, "&#X"+zeros(hexes, 6)+";", n <= 0xffffff)
		if n%61 == 0 {
			hold(n, "&#"+zeros(digits, 8)+";", false)
			hold(n, "&#x"+zeros(hexes, 7)+";", false)
			hold(n, "&#-"+digits+";", false)
			hold(n, "&#+"+digits+";", false)
			hold(n, "&#x-"+hexes+";", false)
			hold(n, "&#0x"+hexes+";", false)
			hold(n, "&#"+digits, false)
			hold(n, "&#x"+hexes, false)
			hold(n, "&# "+digits+";", false)
			hold(n, "&#"+digits+" ;", false)
			hold(n, "&#"+digits+"_0;", false)
		}
	}
}

func TestWrite(t *testing.T) { // P16.2, P16.3: what is written can be read
	m := newModel()
	byScalar := map[rune]string{}
	for name, r := range m.scalars {
		byScalar[r] = name
	}
	for r := rune(-300); r < 0x110300; r++ {
		want := ""
		if name, ok := byScalar[r]; ok {
			want = "&" + name + ";"
		} else if r != 0 && isScalar(int64(r)) {
			want = "&#x" + strconv.FormatInt(int64(r), 16) + ";"
		}
		got := entity.Write(r)
		if got != want || len(got) > entity.MaxRef {
			t.Fatalf("Write(%x): %q, not %q", r, got, want)
		}
		if back, size := entity.Read([]byte(got), 0); want != "" && (back != r || size != len(got)) {
			t.Fatalf("Read of %s: %x, %d", got, back, size)
		}
		if entity.Open([]byte(got)) {
			t.Fatalf("%s is open", got)
		}
	}
	for _, r := range []rune{math.MinInt32, math.MaxInt32, 1 << 24, 1<<24 + 0x41, -0x41, 0x26 - 1<<31} {
		if got := entity.Write(r); got != "" {
			t.Errorf("Write(%x): %q", r, got)
		}
	}
}

func TestOffsets(t *testing.T) { // P16.1: no such offset
	for _, s := range []string{"", "&", "&amp;", "&lt;&gt;"} {
		for _, at := range []int{-1, -5, math.MinInt, math.MinInt + 1, len(s), len(s) + 1, 1 << 32, math.MaxInt - 1, math.MaxInt} {
			if r, size := entity.Read([]byte(s), at); r != 0 || size != 0 {
				t.Errorf("Read(%q, %d): %x, %d", s, at, r, size)
			}
		}
	}
	if r, size := entity.Read(nil, 0); r != 0 || size != 0 || entity.Open(nil) || entity.Open([]byte{}) {
		t.Errorf("nothing: %x, %d", r, size)
	}
}

// TestBehind has bytes behind those that are handed in, which are not to be read, nor to be changed.
func TestBehind(t *testing.T) { // P16.1
	for _, s := range []string{"&amp;", "&#1234567;", "&#x10ffff;", "&#X9;", "&thinsp;"} {
		given := []byte(s + s)
		for end := range s {
			if r, size := entity.Read(given[:end], 0); r != 0 || size != 0 {
				t.Errorf("Read(%q): %x, %d", s[:end], r, size)
			}
			if got := entity.Open(given[:end]); got != (end > 0) {
				t.Errorf("Open(%q): %v", s[:end], got)
			}
		}
		if entity.Open(given) || entity.Open(given[:len(s)]) || entity.Open(given[:len(s)+2]) {
			t.Errorf("%s is open", s)
		}
		if !bytes.Equal(given, []byte(s+s)) {
			t.Errorf("%s was changed", s)
		}
	}
}

// TestLong has that no reference is longer than MaxRef, and that some are as long.
func TestLong(t *testing.T) { // P16.1
	if entity.MaxRef != 10 {
		t.Error(entity.MaxRef)
	}
	for s, want := range map[string]rune{"&#1114111;": 0x10ffff, "&#x10ffff;": 0x10ffff, "&#X0000aB;": 0xab, "&#9999999;": 0xfffd, "&#0000000;": 0xfffd} {
		if r, size := entity.Read([]byte(s), 0); r != want || size != entity.MaxRef {
			t.Errorf("Read(%q): %x, %d", s, r, size)
		}
	}
	for _, s := range []string{"&#01114111;", "&#x010ffff;", "&#" + strings.Repeat("0", 1<<16) + "65;", "&#x" + strings.Repeat("0", 1<<16) + "41;", "&" + strings.Repeat("amp", 1<<16) + ";"} {
		if r, size := entity.Read([]byte(s), 0); r != 0 || size != 0 {
			t.Errorf("Read(%.20q): %x, %d", s, r, size)
		}
		for _, end := range []int{entity.MaxRef, entity.MaxRef + 1, len(s) - 1, len(s)} {
			if entity.Open([]byte(s[:end])) {
				t.Errorf("Open(%.20q): true", s[:end])
			}
		}
	}
}

// TestOne has that at most one reference begins at an offset, and that one is not open.
func TestOne(t *testing.T) { // P16.3
	m := newModel()
	for _, name := range m.names {
		for _, end := range m.ends {
			b := []byte("&" + name + ";" + end)
			for cut := range b {
				m.hold(t, b[:cut+1])
				if cut > len(name) && entity.Open(b[:cut+1]) {
					t.Errorf("%s is open", b[:cut+1])
				}
			}
			count := 0
			for cut := range b {
				if _, size := entity.Read(b[:cut+1], 0); size == cut+1 {
					count++
				}
			}
			if count != 1 {
				t.Errorf("%d references begin %s", count, b)
			}
		}
	}
}

// TestAgainstScalar has that the scalar of a reference to a number is the one that its encoding has.
func TestAgainstScalar(t *testing.T) { // P16.1
	for _, r := range []rune{1, 0x7f, 0x80, 0x7ff, 0x800, 0xd7ff, 0xd800, 0xdbff, 0xdc00, 0xdfff, 0xe000, 0xfffd, 0xffff, 0x10000, 0x10ffff, 0x110000, 0xffffff} {
		want := scalar.All(scalar.Put(r))[0]
		if got, _ := entity.Read([]byte("&#x"+strconv.FormatInt(int64(r), 16)+";"), 0); got != want {
			t.Errorf("%x: %x, not %x", r, got, want)
		}
	}
}
