package ansi_test

import (
	"bytes"
	"math"
	"math/rand"
	"regexp"
	"slices"
	"strconv"
	"strings"
	"testing"

	"virgule/ansi"
)

// The chapter's terms, as patterns.
var (
	wholeControl = regexp.MustCompile(`^\x1b\[[0-?]*[ -/]*([@-~])`)
	cutControl   = regexp.MustCompile(`^\x1b\[[0-?]*[ -/]*`)
	twoBytes     = regexp.MustCompile(`^\x1b([@-Z\\-_])`)
	withNumbers  = regexp.MustCompile(`^\x1b\[([0-9]{0,5}(?:;[0-9]{0,5})*)[@-~]`)
	anywhere     = regexp.MustCompile(`\x1b(?:\[[0-?]*[ -/]*[@-~]?|[@-Z\\-_])?`)
)

// read is the escape sequence that b begins with.
func read(b []byte) ansi.Escape {
	if len(b) == 0 || b[0] != 0x1b {
		return ansi.Escape{}
	}
	for _, whole := range []*regexp.Regexp{wholeControl, twoBytes} {
		if x := whole.FindSubmatch(b); x != nil {
			return ansi.Escape{Size: len(x[0]), Whole: true, Last: x[1][0]}
		}
	}
	size := max(1, len(cutControl.Find(b)))
	return ansi.Escape{Size: size, Open: size == len(b)}
}

// numbers is the numbers of the control sequence that b begins with.
func numbers(b []byte) ([]int, bool) {
	x := withNumbers.FindSubmatch(b)
	if x == nil {
		return nil, false
	}
	var out []int
	for part := range strings.SplitSeq(string(x[1]), ";") {
		n, _ := strconv.Atoi("0" + part)
		out = append(out, n)
	}
	return out, true
}

// hold holds all that is read of b against the patterns.
func hold(t *testing.T, b []byte) {
	t.Helper()
	for at := range b {
		if got, want := ansi.Read(b, at), read(b[at:]); got != want {
			t.Fatalf("Read(%q, %d): %+v, not %+v", b, at, got, want)
		}
		got, gotOK := ansi.Numbers(b, at)
		if want, ok := numbers(b[at:]); gotOK != ok || !slices.Equal(got, want) {
			t.Fatalf("Numbers(%q, %d): %d, %v, not %d, %v", b, at, got, gotOK, want, ok)
		}
	}
	if got, want := ansi.Strip(b), anywhere.ReplaceAll(b, nil); !bytes.Equal(got, want) {
		t.Fatalf("Strip(%q): %q, not %q", b, got, want)
	}
}

// each hands on all texts of up to so many of some pieces.
func each(most int, pieces []string, do func(b []byte)) {
	var grow func(b []byte, more int)
	grow = func(b []byte, more int) {
		do(b)
		if more == 0 {
			return
		}
		for _, p := range pieces {
			grow(append(b[:len(b):len(b)], p...), more-1)
		}
	}
	grow(nil, most)
}

// edges is the bytes at which the chapter's ranges begin and end, and some others.
func edges() []string {
	return []string{"\x1b", "[", "\x1f", " ", "/", "0", "9", ":", ";", "?", "@", "Z", "\\", "_", "`", "m", "~", "\x7f", "\x80", "\xff", "\n", "\x00"}
}

func TestShort(t *testing.T) { // P17.1, P17.2, for all short texts
	each(3, edges(), func(b []byte) { hold(t, b) })
	each(3, edges(), func(b []byte) { hold(t, append([]byte("\x1b["), b...)) })
	for first := range 256 {
		for second := range 256 {
			for _, head := range []string{"\x1b", "\x1b[", "\x1b[1;22", "\x1b[ "} {
				hold(t, append([]byte(head), byte(first), byte(second)))
			}
		}
	}
}

func TestPieces(t *testing.T) { // P17.1, P17.2, for sequences behind one another, and damaged ones
	pieces := []string{"\x1b", "[", "\x1b[", "\x1b[31m", "\x1b[1;22H", ";", "99999", "100000", "0", "?25", " ", "m", "\x1bM", "a", "é", "\x9b"}
	each(4, pieces, func(b []byte) { hold(t, b) })
	rng := rand.New(rand.NewSource(1))
	for range 50000 {
		var b []byte
		for range rng.Intn(14) {
			b = append(b, pieces[rng.Intn(len(pieces))]...)
			if rng.Intn(4) == 0 {
				b[rng.Intn(len(b))] = byte(rng.Intn(256))
			}
		}
		hold(t, b)
	}
}

func TestRead(t *testing.T) { // P17.1
	for s, want := range map[string]ansi.Escape{
		"":                {},
		"a":               {},
		"[31m":            {},
		"\x9b31m":         {},
		"\x1b":            {Size: 1, Open: true},
		"\x1b\x1b":        {Size: 1},
		"\x1b\x1b[1m":     {Size: 1},
		"\x1b1":           {Size: 1},
		"\x1ba":           {Size: 1},
		"\x1b?":           {Size: 1},
		"\x1b`":           {Size: 1},
		"\x1b@":           {Size: 2, Whole: true, Last: '@'},
		"\x1b_x":          {Size: 2, Whole: true, Last: '_'},
		"\x1b]0;x\x07":    {Size: 2, Whole: true, Last: ']'},
		"\x1b[":           {Size: 2, Open: true},
		"\x1b[[":          {Size: 3, Whole: true, Last: '['},
		"\x1b[m":          {Size: 3, Whole: true, Last: 'm'},
		"\x1b[31m":        {Size: 5, Whole: true, Last: 'm'},
		"\x1b[?25lx":      {Size: 6, Whole: true, Last: 'l'},
		"\x1b[1 q":        {Size: 5, Whole: true, Last: 'q'},
		"\x1b[ !/~":       {Size: 6, Whole: true, Last: '~'},
		"\x1b[1 2q":       {Size: 4},
		"\x1b[ 1":         {Size: 3},
		"\x1b[1 ":         {Size: 4, Open: true},
		"\x1b[1;":         {Size: 4, Open: true},
		"\x1b[1\x7f":      {Size: 3},
		"\x1b[1\x1b[2m":   {Size: 3},
		"\x1b[\n":         {Size: 2},
		"\x1b[12\x80m":    {Size: 4},
		"\x1b[12\xc3\xa9": {Size: 4},
	} {
		if got := ansi.Read([]byte(s), 0); got != want {
			t.Errorf("Read(%q): %+v, not %+v", s, got, want)
		}
		if got := ansi.Read([]byte("\x1b"+s), 1); got != want {
			t.Errorf("Read of %q at 1: %+v, not %+v", s, got, want)
		}
	}
}

func TestNumbers(t *testing.T) { // P17.1
	for s, want := range map[string][]int{
		"\x1b[m":                     {0},
		"\x1b[0m":                    {0},
		"\x1b[;m":                    {0, 0},
		"\x1b[;;H":                   {0, 0, 0},
		"\x1b[31m":                   {31},
		"\x1b[1;22Hx":                {1, 22},
		"\x1b[1;;3~":                 {1, 0, 3},
		"\x1b[5;@":                   {5, 0},
		"\x1b[00007;99999[":          {7, 99999},
		"\x1b[000001m":               nil,
		"\x1b[100000m":               nil,
		"\x1b[1;123456m":             nil,
		"\x1b[18446744073709551617m": nil,
		"\x1b[?25l":                  nil,
		"\x1b[1:2m":                  nil,
		"\x1b[<m":                    nil,
		"\x1b[1 q":                   nil,
		"\x1b[ q":                    nil,
		"\x1b[+m":                    nil,
		"\x1b[1-m":                   nil,
		"\x1b[1;22":                  nil,
		"\x1b[1\nm":                  nil,
		"\x1b[":                      nil,
		"\x1b":                       nil,
		"\x1bM":                      nil,
		"\x1b]":                      nil,
		"\x1bm":                      nil,
		"[1m":                        nil,
		"a":                          nil,
	} {
		if got, ok := ansi.Numbers([]byte(s), 0); ok != (want != nil) || !slices.Equal(got, want) {
			t.Errorf("Numbers(%q): %d, %v, not %d", s, got, ok, want)
		}
	}
}

func TestOffsets(t *testing.T) { // P17.1: no such offset
	for _, s := range []string{"", "\x1b", "\x1b[1m", "\x1b[1m\x1b[2m"} {
		for _, at := range []int{-1, -4, math.MinInt, math.MinInt + 1, len(s), len(s) + 1, 1 << 32, math.MaxInt - 1, math.MaxInt} {
			if got := ansi.Read([]byte(s), at); got != (ansi.Escape{}) {
				t.Errorf("Read(%q, %d): %+v", s, at, got)
			}
			if got, ok := ansi.Numbers([]byte(s), at); got != nil || ok {
				t.Errorf("Numbers(%q, %d): %d, %v", s, at, got, ok)
			}
		}
	}
	if got, ok := ansi.Numbers(nil, 0); ansi.Read(nil, 0) != (ansi.Escape{}) || got != nil || ok || len(ansi.Strip(nil)) != 0 {
		t.Error("nothing")
	}
}

// written is a control sequence by the chapter's words, for numbers that it allows.
func written(last byte, l []int) string {
	s := "\x1b["
	for i, n := range l {
		if i > 0 {
			s += ";"
		}
		s += strconv.Itoa(n)
	}
	return s + string(rune(last))
}

func TestWrite(t *testing.T) { // P17.2, P17.3: what is written can be read
	lists := [][]int{nil, {}, {0}, {7}, {0, 0}, {1, 22}, {99999}, {99999, 0, 100}, {10, 9, 8, 7, 6, 5, 4, 3, 2, 1, 0}, slices.Repeat([]int{38}, 5000)}
	for c := range 256 {
		last := byte(c)
		for _, l := range lists {
			want := ""
			if 0x40 <= c && c <= 0x7e {
				want = written(last, l)
			}
			s := ansi.Write(last, l...)
			if s != want {
				t.Fatalf("Write(%x, %d): %q, not %q", c, l, s, want)
			}
			if want == "" {
				continue
			}
			if got := ansi.Read([]byte(s+"m"), 0); got != (ansi.Escape{Size: len(s), Whole: true, Last: last}) {
				t.Fatalf("Read(%q): %+v", s, got)
			}
			back, ok := ansi.Numbers([]byte(s), 0)
			if len(l) == 0 {
				l = []int{0}
			}
			if !ok || !slices.Equal(back, l) {
				t.Fatalf("Numbers(%q): %d, %v", s, back, ok)
			}
		}
	}
	for n := range 100000 {
		if got, ok := ansi.Numbers([]byte(ansi.Write('m', n)), 0); !ok || len(got) != 1 || got[0] != n {
			t.Fatalf("%d: %d, %v", n, got, ok)
		}
	}
}

func TestWriteNone(t *testing.T) { // P17.2
	for _, n := range []int{-1, -99999, 100000, 100001, 1 << 32, 1<<32 + 1, math.MinInt, math.MaxInt} {
		for _, l := range [][]int{{n}, {n, 0}, {0, n}, {0, n, 0}} {
			if got := ansi.Write('m', l...); got != "" {
				t.Errorf("Write of %d: %q", l, got)
			}
		}
	}
	for _, last := range []byte{0, ' ', '0', ';', '?', 0x7f, 0x80, 0x9b, 0xff, 0x1b} {
		if got := ansi.Write(last); got != "" {
			t.Errorf("Write(%x): %q", last, got)
		}
	}
}

func TestStrip(t *testing.T) { // P17.2
	for s, want := range map[string]string{
		"":                             "",
		"abc":                          "abc",
		"a\x1b[1mb\x1b":                "ab",
		"a\x1b\x1b[1mb":                "ab",
		"\x1b[1\x1b[2mx":               "x",
		"\x1b[1 2m":                    "2m",
		"\x1b\x1bM\x1bm":               "m",
		"\x1b[\nx":                     "\nx",
		"[1m\x9b1m":                    "[1m\x9b1m",
		"\x1b" + "\x1b[m" + "[1m":      "[1m",
		"\x00\xff\x1b[m\xc3\x1b[m\xa9": "\x00\xff\xc3\xa9",
	} {
		if got := string(ansi.Strip([]byte(s))); got != want {
			t.Errorf("Strip(%q): %q, not %q", s, got, want)
		}
	}
}

// TestRemoved puts what is written into anything.
func TestRemoved(t *testing.T) { // P17.3
	rng := rand.New(rand.NewSource(2))
	pieces := append(edges(), "\x1b[1", "\x1b[1;2 ", "\x1b[31m", "text")
	for range 50000 {
		var ends [2][]byte
		for i := range ends {
			for range rng.Intn(6) {
				ends[i] = append(ends[i], pieces[rng.Intn(len(pieces))]...)
			}
		}
		mark := ansi.Write(byte(0x40+rng.Intn(0x3f)), rng.Perm(rng.Intn(4))...)
		b := slices.Concat(ends[0], []byte(mark), ends[1])
		got := ansi.Strip(b)
		if want := slices.Concat(ansi.Strip(ends[0]), ansi.Strip(ends[1])); !bytes.Equal(got, want) {
			t.Fatalf("Strip(%q): %q, not %q", b, got, want)
		}
		if bytes.IndexByte(got, 0x1b) >= 0 || !bytes.Equal(ansi.Strip(got), got) {
			t.Fatalf("Strip(%q): %q", b, got)
		}
	}
}

// TestMemory has that what is given is not changed, nor read behind its end, and that answers are new.
func TestMemory(t *testing.T) { // P17.1, P17.2
	const s = "ab\x1b[1;2mc\x1b[3"
	given := append(make([]byte, 0, 99), s+"4m tail"...)[:len(s)]
	if got := ansi.Read(given, 9); got != (ansi.Escape{Size: 3, Open: true}) {
		t.Errorf("Read: %+v", got)
	}
	one, two := ansi.Strip(given), ansi.Strip([]byte("abc"))
	if string(one) != "abc" || string(two) != "abc" {
		t.Errorf("Strip: %q, %q", one, two)
	}
	clear(one[:cap(one)])
	plain := ansi.Strip(given[:2])
	clear(plain[:cap(plain)])
	l, _ := ansi.Numbers(given, 2)
	again, _ := ansi.Numbers(given, 2)
	clear(l[:cap(l)])
	if !slices.Equal(again, []int{1, 2}) || string(two) != "abc" {
		t.Error("answers share memory")
	}
	if string(given[:len(s)+7]) != s+"4m tail" {
		t.Errorf("changed: %q", given[:len(s)+7])
	}
	numbers := append(make([]int, 0, 9), 1, 2, 3)[:2]
	if got := ansi.Write('m', numbers...); got != "\x1b[1;2m" || !slices.Equal(numbers[:3], []int{1, 2, 3}) {
		t.Errorf("Write: %q, %d", got, numbers[:3])
	}
}

// TestLong has many parameter bytes, and many sequences.
func TestLong(t *testing.T) { // P17.1, P17.2
	long := "\x1b[" + strings.Repeat("1;", 1<<16) + strings.Repeat(" ", 1<<16)
	if got := ansi.Read([]byte(long), 0); got != (ansi.Escape{Size: len(long), Open: true}) {
		t.Errorf("%+v", got)
	}
	if got := ansi.Read([]byte(long+"q"), 0); got != (ansi.Escape{Size: len(long) + 1, Whole: true, Last: 'q'}) {
		t.Errorf("%+v", got)
	}
	if got, ok := ansi.Numbers([]byte(strings.TrimRight(long, " ")+"m"), 0); !ok || len(got) != 1<<16+1 || got[1<<16] != 0 || got[1<<16-1] != 1 {
		t.Errorf("%d numbers, %v", len(got), ok)
	}
	many := strings.Repeat("a\x1b[1;2m\x1b\x1bM\x1b[\n", 1<<15)
	if got := ansi.Strip([]byte(many)); string(got) != strings.Repeat("a\n", 1<<15) {
		t.Errorf("%d bytes are left", len(got))
	}
}
