// Package scalar is layer 1: bytes as scalars.
package scalar

import (
	"iter"
	"strconv"
	"strings"
	"unicode/utf8"

	"virgule/api"
)

// read is one scalar that was decoded.
type read struct {
	r        rune
	at, size int
	whole    bool // a whole sequence may mean fffd too, so the scalar alone doesn't tell
}

// decode reads the scalar at an offset of b.
func decode(b []byte, at int) read {
	r, size := utf8.DecodeRune(b[at:])
	if r == utf8.RuneError && size == 1 {
		return read{r: api.Broken, at: at, size: brokenSize(b[at:])}
	}
	return read{r: r, at: at, size: size, whole: true}
}

// brokenSize is how many of the first bytes some others could complete; 1, if none.
func brokenSize(b []byte) int {
	size := 1
	for size < len(b) && !utf8.FullRune(b[:size+1]) {
		size++
	}
	return size
}

// each yields the scalars of b, in order.
func each(b []byte) iter.Seq[read] {
	return func(yield func(read) bool) {
		for at := 0; at < len(b); {
			x := decode(b, at)
			if !yield(x) {
				return
			}
			at += x.size
		}
	}
}

// Next is the scalar at an offset, and its size.
func Next(b []byte, at int) (rune, int) {
	if at < 0 || at >= len(b) {
		return 0, 0
	}
	x := decode(b, at)
	return x.r, x.size
}

// All is all scalars.
func All(b []byte) []rune {
	var out []rune
	for x := range each(b) {
		out = append(out, x.r)
	}
	return out
}

// Starts is where each begins.
func Starts(b []byte) []int {
	var out []int
	for x := range each(b) {
		out = append(out, x.at)
	}
	return out
}

// Count is how many there are.
func Count(b []byte) int {
	n := 0
	for range each(b) {
		n++
	}
	return n
}

// Valid tells whether none is broken.
func Valid(b []byte) bool {
	for x := range each(b) {
		if !x.whole {
			return false
		}
	}
	return true
}

// Start is where the scalar of a byte begins.
func Start(b []byte, at int) (int, bool) {
	if at < 0 || at >= len(b) {
		return 0, false
	}
	// A byte that doesn't continue a sequence begins a scalar wherever it stands,
	// so it needn't be decoded from farther back than the nearest of these.
	for i := at; i >= 0 && at-i < utf8.UTFMax; i-- {
		if utf8.RuneStart(b[i]) {
			if at-i < decode(b, i).size {
				return i, true
			}
			break
		}
	}
	return at, true
}

// Put is a scalar's bytes.
func Put(r rune) []byte {
	return utf8.AppendRune(nil, r)
}

// Print is a scalar's text.
func Print(r rune) string {
	n, sign := int64(r), ""
	if n < 0 {
		n, sign = -n, "-"
	}
	digits := strings.ToUpper(strconv.FormatInt(n, 16))
	return "U+" + sign + strings.Repeat("0", max(0, 4-len(digits))) + digits
}

// Parse is the scalar of a text.
func Parse(s string) (rune, api.Errno) {
	digits, marked := strings.CutPrefix(s, "U+")
	n, err := strconv.ParseInt(digits, 16, 32)
	r := rune(n)
	if !marked || err != nil || !utf8.ValidRune(r) || Print(r) != s {
		return 0, api.ErrForm
	}
	return r, api.OK
}
