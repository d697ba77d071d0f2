package scalar_test

import (
	"bytes"
	"fmt"
	"math"
	"slices"
	"strings"
	"testing"

	"virgule/api"
	"virgule/scalar"
)

// encode is the encoding of a scalar, as the chapter defines it bit by bit.
func encode(r rune) []byte {
	tail := func(shift int) byte { return 0x80 + byte(r>>shift&0x3f) }
	switch {
	case r < 0x80:
		return []byte{byte(r)}
	case r < 0x800:
		return []byte{0xc0 + byte(r>>6), tail(0)}
	case r < 0x10000:
		return []byte{0xe0 + byte(r>>12), tail(6), tail(0)}
	}
	return []byte{0xf0 + byte(r>>18), tail(12), tail(6), tail(0)}
}

func isScalar(r rune) bool {
	return 0 <= r && r <= api.MaxRune && (r < 0xd800 || r > 0xdfff)
}

// sequences knows each complete sequence, and each shorter beginning of one.
type sequences struct {
	whole  map[string]rune
	begins map[string]struct{}
}

func allSequences() sequences {
	s := sequences{whole: map[string]rune{}, begins: map[string]struct{}{}}
	for r := rune(0); r <= api.MaxRune; r++ {
		if !isScalar(r) {
			continue
		}
		b := encode(r)
		s.whole[string(b)] = r
		for n := 1; n < len(b); n++ {
			s.begins[string(b[:n])] = struct{}{}
		}
	}
	return s
}

// next decodes the first scalar of b by the definition alone.
func (s sequences) next(b []byte) (r rune, size int, whole bool) {
	size = 1
	for n := 1; n <= len(b) && n <= 4; n++ {
		if r, ok := s.whole[string(b[:n])]; ok {
			return r, n, true
		}
		if _, ok := s.begins[string(b[:n])]; ok {
			size = n
		}
	}
	return 0xfffd, size, false
}

// compare holds all that the package decodes of b against the definition.
func (s sequences) compare(t *testing.T, b []byte) {
	var runes []rune
	var starts, owner []int
	valid := true
	for at := 0; at < len(b); {
		r, size, whole := s.next(b[at:])
		runes, starts = append(runes, r), append(starts, at)
		valid = valid && whole
		for range size {
			owner = append(owner, at)
		}
		at += size
	}
	if got := scalar.All(b); !slices.Equal(got, runes) {
		t.Fatalf("All(%x): %x, not %x", b, got, runes)
	}
	if got := scalar.Starts(b); !slices.Equal(got, starts) {
		t.Fatalf("Starts(%x): %v, not %v", b, got, starts)
	}
	if got := scalar.Count(b); got != len(runes) {
		t.Fatalf("Count(%x): %d, not %d", b, got, len(runes))
	}
	if got := scalar.Valid(b); got != valid {
		t.Fatalf("Valid(%x): %v", b, got)
	}
	for at := range b {
		r, size, _ := s.next(b[at:])
		if gotR, gotSize := scalar.Next(b, at); gotR != r || gotSize != size {
			t.Fatalf("Next(%x, %d): %x %d, not %x %d", b, at, gotR, gotSize, r, size)
		}
		if got, ok := scalar.Start(b, at); got != owner[at] || !ok {
			t.Fatalf("Start(%x, %d): %d %v, not %d", b, at, got, ok, owner[at])
		}
	}
}

// P1.1: every list of up to five bytes that stand at an edge of the encoding, and every two bytes.
func TestDecodingByDefinition(t *testing.T) {
	s := allSequences()
	s.compare(t, nil)
	for first := range 256 {
		s.compare(t, []byte{byte(first)})
		for second := range 256 {
			s.compare(t, []byte{byte(first), byte(second)})
		}
	}
	edges := []byte{0x41, 0x80, 0x8f, 0x90, 0x9f, 0xa0, 0xbf, 0xc1, 0xc2, 0xe0, 0xe1, 0xed, 0xef, 0xf0, 0xf3, 0xf4, 0xf5}
	for _, a := range edges {
		for _, b := range edges {
			for _, c := range edges {
				s.compare(t, []byte{a, b, c})
				for _, d := range edges {
					s.compare(t, []byte{a, b, c, d})
					s.compare(t, []byte{a, b, c, d, 0x80})
				}
			}
		}
	}
}

func TestBrokenSequences(t *testing.T) { // P1.1
	for _, x := range []struct {
		name  string
		b     string
		want  []rune
		start []int
	}{
		{"the chapter's example", "\x61\xf0\x9f\x98\x62", []rune{0x61, 0xfffd, 0x62}, []int{0, 1, 4}},
		{"unfinished at the end", "\xf0\x9f\x98", []rune{0xfffd}, []int{0}},
		{"only continuing bytes", "\x80\xbf\x80\x80\x80", []rune{0xfffd, 0xfffd, 0xfffd, 0xfffd, 0xfffd}, []int{0, 1, 2, 3, 4}},
		{"longer than needed", "\xc0\x80\xe0\x80\x80\xf0\x8f\xbf\xbf", slices.Repeat([]rune{0xfffd}, 9), []int{0, 1, 2, 3, 4, 5, 6, 7, 8}},
		{"a surrogate", "\xed\xa0\x80", []rune{0xfffd, 0xfffd, 0xfffd}, []int{0, 1, 2}},
		{"above the greatest", "\xf4\x90\x80\x80", slices.Repeat([]rune{0xfffd}, 4), []int{0, 1, 2, 3}},
		{"one continuing byte too many", "\xe2\x82\xac\x80", []rune{0x20ac, 0xfffd}, []int{0, 3}},
		{"unfinished, then complete", "\xe2\x82\xe2\x82\xac", []rune{0xfffd, 0x20ac}, []int{0, 2}},
	} {
		b := []byte(x.b)
		if got := scalar.All(b); !slices.Equal(got, x.want) {
			t.Errorf("%s: All: %x, not %x", x.name, got, x.want)
		}
		if got := scalar.Starts(b); !slices.Equal(got, x.start) {
			t.Errorf("%s: Starts: %v, not %v", x.name, got, x.start)
		}
		if scalar.Valid(b) {
			t.Errorf("%s: Valid", x.name)
		}
	}
}

func TestFffdItselfIsValid(t *testing.T) { // P1.1
	b := []byte("a\xef\xbf\xbdb")
	if !scalar.Valid(b) || !slices.Equal(scalar.All(b), []rune{'a', 0xfffd, 'b'}) {
		t.Error("the encoding of fffd is a complete sequence", scalar.All(b))
	}
	if !scalar.Valid(nil) || scalar.Count(nil) != 0 || len(scalar.All(nil)) != 0 || len(scalar.Starts(nil)) != 0 {
		t.Error("no bytes")
	}
}

func TestOffsetsOutside(t *testing.T) { // P1.1
	for _, b := range [][]byte{nil, {}, []byte("a"), []byte("\xf0\x9f\x98\x80")} {
		for _, at := range []int{math.MinInt, -1, len(b), len(b) + 1, math.MaxInt} {
			if r, size := scalar.Next(b, at); r != 0 || size != 0 {
				t.Errorf("Next(%x, %d): %x %d", b, at, r, size)
			}
			if start, ok := scalar.Start(b, at); start != 0 || ok {
				t.Errorf("Start(%x, %d): %d %v", b, at, start, ok)
			}
		}
	}
}

func TestNextWithinSequence(t *testing.T) { // P1.1: decoding begins at the offset, whatever is before it
	b := []byte("\xe2\x82\xac")
	if r, size := scalar.Next(b, 1); r != 0xfffd || size != 1 {
		t.Errorf("%x %d", r, size)
	}
	if r, size := scalar.Next(b, 0); r != 0x20ac || size != 3 {
		t.Errorf("%x %d", r, size)
	}
}

func TestStartOfLongRuns(t *testing.T) { // P1.1
	b := []byte("\xf0\x9f\x98\x80" + strings.Repeat("\x80", 9))
	for at := range b {
		want := at
		if at < 4 {
			want = 0
		}
		if got, ok := scalar.Start(b, at); got != want || !ok {
			t.Errorf("Start at %d: %d %v, not %d", at, got, ok, want)
		}
	}
}

// P1.2 and P1.3: each scalar is encoded as the definition says, and decoded again.
func TestPutOfEachScalar(t *testing.T) {
	var text []byte
	var want []rune
	sizes := 0
	for r := rune(-2); r <= api.MaxRune+2; r++ {
		b := scalar.Put(r)
		if !isScalar(r) {
			if !bytes.Equal(b, []byte{0xef, 0xbf, 0xbd}) {
				t.Fatalf("Put(%x): %x", r, b)
			}
			continue
		}
		if !bytes.Equal(b, encode(r)) {
			t.Fatalf("Put(%x): %x, not %x", r, b, encode(r))
		}
		if got, size := scalar.Next(b, 0); got != r || size != len(b) || !scalar.Valid(b) {
			t.Fatalf("Next(Put(%x)): %x %d", r, got, size)
		}
		text, want, sizes = append(text, b...), append(want, r), sizes+len(b)
	}
	if !slices.Equal(scalar.All(text), want) || !scalar.Valid(text) || sizes != len(text) {
		t.Error("all encodings in a row are not decoded again")
	}
	for _, r := range []rune{math.MinInt32, math.MaxInt32} {
		if b := scalar.Put(r); string(b) != "\xef\xbf\xbd" {
			t.Errorf("Put(%d): %x", r, b)
		}
	}
}

func TestSizesSum(t *testing.T) { // P1.3
	for _, s := range []string{"", "abc", "\xf0\x9f\x98", "a\x80\xe2\x82\xacb\xff", "\xed\xa0\x80\xf4\x8f\xbf\xbf"} {
		sum := 0
		for sum < len(s) {
			_, size := scalar.Next([]byte(s), sum)
			if size < 1 {
				t.Fatalf("%x: no scalar at %d", s, sum)
			}
			sum += size
		}
		if sum != len(s) {
			t.Errorf("%x: %d bytes, not %d", s, sum, len(s))
		}
	}
}

func TestPutIsNew(t *testing.T) { // rule 4
	scalar.Put('a')[0] = 'x'
	scalar.Put(-1)[0] = 'x'
	if string(scalar.Put('a')) != "a" || string(scalar.Put(-1)) != "\xef\xbf\xbd" {
		t.Error("a result is shared")
	}
}

func TestPrint(t *testing.T) { // P1.2
	for _, x := range []struct {
		r    rune
		want string
	}{
		{0, "U+0000"}, {0x41, "U+0041"}, {0xfff, "U+0FFF"}, {0xabcd, "U+ABCD"}, {0x1f600, "U+1F600"},
		{0xd800, "U+D800"}, {0x10ffff, "U+10FFFF"}, {0x110000, "U+110000"}, {math.MaxInt32, "U+7FFFFFFF"},
		{-1, "U+-0001"}, {-0x41, "U+-0041"}, {-0x12345, "U+-12345"}, {math.MinInt32, "U+-80000000"},
	} {
		if got := scalar.Print(x.r); got != x.want {
			t.Errorf("Print(%d): %s, not %s", x.r, got, x.want)
		}
	}
}

func TestParseOfEachNumber(t *testing.T) { // P1.2
	for r := rune(-0x200); r <= api.MaxRune+0x200; r++ {
		want, wantErr := r, api.OK
		if !isScalar(r) {
			want, wantErr = 0, api.ErrForm
		}
		text := fmt.Sprintf("U+%04X", r)
		if got, err := scalar.Parse(text); got != want || err != wantErr {
			t.Fatalf("Parse(%s): %x %d", text, got, err)
		}
		if wantErr == api.OK && scalar.Print(r) != text {
			t.Fatalf("Print(%x): %s, not %s", r, scalar.Print(r), text)
		}
	}
}

func TestParseOfWrongTexts(t *testing.T) { // P1.2
	for _, s := range []string{
		"", "U", "U+", "u+0041", "0041", "+0041", "U0041", "U+41", "U+041", "U+00041", "U+004a", "U+004G",
		" U+0041", "U+0041 ", "U+0041\n", "U++0041", "U+-0041", "U+-0000", "U+0x41", "U+00_41", "U+U+0041",
		"U+D800", "U+DFFF", "U+110000", "U+7FFFFFFF", "U+80000000", "U+100000041", "U+FFFFFFFFFFFFFFFFF", "U+\uff10041",
	} {
		if r, err := scalar.Parse(s); r != 0 || err != api.ErrForm {
			t.Errorf("Parse(%q): %x %d", s, r, err)
		}
	}
}

func TestArgumentsAreLeftAlone(t *testing.T) { // rule 4
	whole := []byte("a\xe2\x82\xac\xf0\x9f rest")
	before := slices.Clone(whole)
	b := whole[:6]
	scalar.All(b)
	scalar.Starts(b)
	scalar.Count(b)
	scalar.Valid(b)
	for at := range b {
		scalar.Next(b, at)
		scalar.Start(b, at)
	}
	if !bytes.Equal(whole, before) {
		t.Error("an argument was changed")
	}
	if r, size := scalar.Next(b, 4); r != 0xfffd || size != 2 {
		t.Error("bytes beyond the length were read", r, size)
	}
}
