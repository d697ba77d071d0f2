package entity

import (
	"bytes"
	"strconv"

	"virgule/api"
)

const (
	decimals = 7 // how many digits a reference has at most
	hexes    = 6 // how many hexadecimal ones
)

// style is one of the ways in which a reference is written: how it begins, then something within, then a ;.
type style struct {
	begin string
	may   func(within []byte, c byte) bool // whether c may follow what is within so far; the ; ends it
	means func(within []byte) rune
}

// styles are all of them. No reference is of two.
func styles() [4]style {
	return [...]style{
		{"&", mayName, ofName},
		numeric("&#", 10, decimals),
		numeric("&#x", 16, hexes),
		numeric("&#X", 16, hexes),
	}
}

// follow is how many bytes of b go on as this style has it, and whether they are a whole reference.
func (s style) follow(b []byte) (int, bool) {
	// Bytes that end within what this style begins with go on as a style does that begins with less.
	if !bytes.HasPrefix(b, []byte(s.begin)) {
		return 0, false
	}
	n := len(s.begin)
	for n < len(b) && s.may(b[len(s.begin):n], b[n]) {
		n++
		if b[n-1] == ';' {
			return n, true
		}
	}
	return n, false
}

// mayName tells whether a byte may follow the beginning of a name.
func mayName(within []byte, c byte) bool {
	_, ok := find(func(x row) bool {
		n := len(within)
		if c == ';' {
			return x.name == string(within)
		}
		return n < len(x.name) && x.name[:n] == string(within) && x.name[n] == c
	})
	return ok
}

// ofName is the scalar of a name that there is.
func ofName(within []byte) rune {
	r, _ := Find(string(within))
	return r
}

// numeric is the style of numbers of a base, with at most so many digits.
func numeric(begin string, base, most int) style {
	return style{
		begin: begin,
		may: func(within []byte, c byte) bool {
			if c == ';' {
				return len(within) > 0
			}
			return len(within) < most && isDigit(c, base)
		},
		means: func(within []byte) rune { return ofNumber(string(within), base) },
	}
}

// isDigit tells whether a byte is a digit of a base, 10 or 16.
func isDigit(c byte, base int) bool {
	if '0' <= c && c <= '9' {
		return true
	}
	return base == 16 && ('a' <= c && c <= 'f' || 'A' <= c && c <= 'F')
}

// ofNumber is the scalar of a number, of which a reference never means 0.
func ofNumber(digits string, base int) rune {
	// There are so few digits that every number of them is a rune.
	n, _ := strconv.ParseInt(digits, base, 32)
	if n == 0 {
		return api.Broken
	}
	return nearest(rune(n))
}
