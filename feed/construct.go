package feed

import (
	"slices"

	"virgule/tag"
)

// construct is how far a markup construct was read that isn't closed.
type construct struct {
	instead string // what stands for the bytes that were read
	read    int
}

// closes tells whether a construct that wasn't closed up to a place is closed behind it.
func (c *construct) closes(b []byte, fresh int) bool {
	for i := fresh; i < len(b); i++ {
		if b[i] == '>' && c.closesWith(b[:i+1]) {
			return true
		}
	}
	return false
}

// closesWith tells whether the last byte of b, a >, closes the construct.
func (c *construct) closesWith(b []byte) bool {
	part := slices.Concat([]byte(c.instead), b[c.read:])
	x, _ := tag.Read(part, 0)
	if !x.Closed {
		// So the > stands within a comment or a value, and how long that is doesn't matter.
		c.instead, c.read = within(x, part), len(b)
	}
	return x.Closed
}

// within is a short beginning of a construct, within the same as the end of one that isn't closed.
func within(x tag.Tag, b []byte) string {
	if x.Kind == tag.Comment {
		return "<!--"
	}
	value := x.Attrs[len(x.Attrs)-1].Value
	mark := b[len(b)-len(value)-1]
	return "<a a=" + string([]byte{mark})
}
