// Package ranges is layer 2: sets of numbers of scalars.
package ranges

import (
	"cmp"
	"slices"
	"strconv"
	"strings"

	"virgule/api"
)

// MaxRanges is how many ranges a set is made of.
const MaxRanges = 1000

// noneText is the text of the empty set.
const noneText = "none"

// Range is all numbers from one to another one.
type Range struct {
	Lo, Hi rune
}

// Set is ranges that rise.
type Set []Range

// Make is the set of ranges.
func Make(l ...Range) (Set, api.Errno) {
	if len(l) > MaxRanges {
		return nil, api.ErrLong
	}
	for _, r := range l {
		if !inBounds(r) {
			return nil, api.ErrArg
		}
	}
	return join(slices.Clone(l)), api.OK
}

// inBounds tells whether a range has its ends in order and within the bounds.
func inBounds(r Range) bool {
	return 0 <= r.Lo && r.Lo <= r.Hi && r.Hi <= api.MaxRune
}

// join is the set of ranges that are all in bounds; it sorts l itself.
func join(l []Range) Set {
	slices.SortFunc(l, func(a, b Range) int { return cmp.Compare(a.Lo, b.Lo) })
	var out Set
	for _, r := range l {
		if n := len(out); n > 0 && r.Lo <= out[n-1].Hi+1 {
			out[n-1].Hi = max(out[n-1].Hi, r.Hi)
		} else {
			out = append(out, r)
		}
	}
	return out
}

// Right tells whether a set is valid.
func Right(s Set) bool {
	for i, r := range s {
		if !inBounds(r) || i > 0 && r.Lo <= s[i-1].Hi+1 {
			return false
		}
	}
	return true
}

// valid is s, or the empty set if s is not valid.
func valid(s Set) Set {
	if !Right(s) {
		return nil
	}
	return s
}

// Has tells whether a number is in a set.
func Has(s Set, r rune) bool {
	return slices.ContainsFunc(valid(s), func(x Range) bool { return x.Lo <= r && r <= x.Hi })
}

// Count is how many numbers there are.
func Count(s Set) int {
	n := 0
	for _, r := range valid(s) {
		n += int(r.Hi-r.Lo) + 1
	}
	return n
}

// Union is what is in one of sets.
func Union(l ...Set) Set {
	var all []Range
	for _, s := range l {
		all = append(all, valid(s)...)
	}
	return join(all)
}

// Not is what isn't in a set.
func Not(a Set) Set {
	var out Set
	next := rune(0)
	for _, r := range valid(a) {
		if next < r.Lo {
			out = append(out, Range{next, r.Lo - 1})
		}
		next = r.Hi + 1
	}
	if next <= api.MaxRune {
		out = append(out, Range{next, api.MaxRune})
	}
	return out
}

// Cut is what is in both sets.
func Cut(a, b Set) Set {
	a, b = valid(a), valid(b)
	var out Set
	for len(a) > 0 && len(b) > 0 {
		lo, hi := max(a[0].Lo, b[0].Lo), min(a[0].Hi, b[0].Hi)
		if lo <= hi {
			out = append(out, Range{lo, hi})
		}
		if a[0].Hi < b[0].Hi {
			a = a[1:]
		} else {
			b = b[1:]
		}
	}
	return out
}

// Minus is what is in the first set alone.
func Minus(a, b Set) Set {
	return Cut(a, Not(b))
}

// Same tells whether two sets have the same numbers.
func Same(a, b Set) bool {
	// Valid sets have one representation each, so equal numbers are equal ranges.
	a, b = valid(a), valid(b)
	if len(a) != len(b) {
		return false
	}
	for i := range a {
		if a[i] != b[i] {
			return false
		}
	}
	return true
}

// Print is a set's text.
func Print(s Set) string {
	s = valid(s)
	if len(s) == 0 {
		return noneText
	}
	texts := make([]string, len(s))
	for i, r := range s {
		texts[i] = printRange(r)
	}
	return strings.Join(texts, ",")
}

// printRange is a range's text.
func printRange(r Range) string {
	if r.Lo == r.Hi {
		return printHex(r.Lo)
	}
	return printHex(r.Lo) + "-" + printHex(r.Hi)
}

// printHex is a number that is not negative, in at least four digits.
func printHex(r rune) string {
	digits := strconv.FormatInt(int64(r), 16)
	return strings.Repeat("0", max(0, 4-len(digits))) + digits
}

// Parse is the set of a text.
func Parse(s string) (Set, api.Errno) {
	if s == noneText {
		return nil, api.OK
	}
	if strings.Count(s, ",") >= MaxRanges {
		return nil, api.ErrForm
	}
	var out Set
	for text := range strings.SplitSeq(s, ",") {
		r, ok := parseRange(text)
		if !ok {
			return nil, api.ErrForm
		}
		out = append(out, r)
	}
	// A set that isn't valid is printed as none, so this refuses those too.
	if Print(out) != s {
		return nil, api.ErrForm
	}
	return out, api.OK
}

// parseRange reads a range's text, and some that are none: Parse holds the whole against what is printed.
func parseRange(text string) (Range, bool) {
	low, high, two := strings.Cut(text, "-")
	if !two {
		high = low
	}
	lo, errLo := strconv.ParseInt(low, 16, 32)
	hi, errHi := strconv.ParseInt(high, 16, 32)
	return Range{rune(lo), rune(hi)}, errLo == nil && errHi == nil
}
