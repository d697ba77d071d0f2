package nest

import (
	"virgule/api"
	"virgule/element"
)

// What is counted.
const (
	hidden = iota
	pre
	noBreak
	kinds
)

// counts is how many elements of each kind are open.
type counts [kinds]int

// shows tells whether no hidden element is open.
func (c *counts) shows() bool {
	return c[hidden] == 0
}

// add adds to the counts of what an element is.
func (c *counts) add(is, by int) {
	if !c.shows() {
		is &= element.Hidden
	}
	for i, bit := range [kinds]int{hidden: element.Hidden, pre: element.Pre, noBreak: element.NoBreak} {
		if is&bit != 0 {
			c[i] = min(max(c[i]+by, 0), api.MaxNest)
		}
	}
}
