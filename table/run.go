package table

import (
	"math/bits"
	"slices"

	"virgule/api"
)

// What a position is told that no rule decides; one that a rule decides is told the rule's number.
const (
	noRule   = -1
	isHidden = -2
)

// Which is the rule that decides at a place.
func (t Table) Which(ids []int, i int) int {
	if i <= 0 || i >= len(ids) {
		return noRule
	}
	r := t.runner()
	if r == nil {
		return noRule
	}
	var told []int
	for _, id := range ids {
		told = append(told, r.add(id)...)
		if len(told) >= i {
			break
		}
	}
	told = append(told, r.finish()...)
	return max(told[i-1], noRule)
}

// Breaks tells where there are breaks.
func (t Table) Breaks(ids []int) []bool {
	r := t.runner()
	if r == nil {
		return nil
	}
	out := []bool{true}
	for _, id := range ids {
		out = append(out, r.Push(id)...)
	}
	out = append(out, r.Close()...)
	if len(ids) > 0 {
		out = append(out, true)
	}
	return out
}

// Runner runs a table.
type Runner struct {
	Table
	left, right rows
	isOpen      bool
	row         int     // of the left part: where all classes so far lead that are not hidden
	last        int     // the last class that is not hidden; at first, the beginning
	waiting     []place // the positions that wait and are not hidden; between two calls, fewer than MaxLook
}

// place is a position that waits and is not hidden.
type place struct {
	class  int
	before uint64 // the rules that its left context accepts
	hidden int    // how many hidden positions wait directly behind it
}

// Run is a runner.
func (t Table) Run() *Runner {
	r := t.runner()
	if r != nil {
		r.Table = t.clone()
	}
	return r
}

// runner is a runner that shares the table's lists, nil if the table is not valid.
func (t Table) runner() *Runner {
	left, right, ok := t.unpack()
	if !ok {
		return nil
	}
	begin := left[0][t.Groups[api.StartID]]
	return &Runner{Table: t, left: left, right: right, isOpen: true, row: begin, last: api.StartID}
}

// Push takes a class, and decides what can be.
func (r *Runner) Push(id int) []bool {
	if r == nil || !r.isOpen {
		return nil
	}
	return r.breaks(r.add(id))
}

// Close decides what is left.
func (r *Runner) Close() []bool {
	if r == nil {
		return nil
	}
	out := r.breaks(r.finish())
	*r = Runner{Table: r.Table}
	return out
}

// Waits is how many places wait.
func (r *Runner) Waits() int {
	if r == nil {
		return 0
	}
	count := 0
	for _, p := range r.waiting {
		count += 1 + p.hidden
	}
	return count
}

// breaks tells of positions, by what they were told, whether there is a break before them.
func (r *Runner) breaks(told []int) []bool {
	var out []bool
	for _, n := range told {
		out = append(out, n == noRule || n >= 0 && has(r.Break, n))
	}
	return out
}

// add adds a class, and tells the positions that can be decided now.
func (r *Runner) add(id int) []int {
	class := classOf(id)
	if r.hides(class) {
		return r.hide()
	}
	isFirst := r.last == api.StartID
	before := r.Left.Tells[r.row]
	r.row = r.left[r.row][r.Groups[class]]
	r.last = class
	if isFirst {
		return nil
	}
	r.waiting = append(r.waiting, place{class: class, before: before})
	if len(r.waiting) < api.MaxLook {
		return nil
	}
	return r.decide()
}

// classOf is the class that a number counts as.
func classOf(id int) int {
	if id < 0 || id >= api.Classes {
		return 0
	}
	return id
}

// hides tells whether a class would be hidden as the next one.
func (r *Runner) hides(class int) bool {
	// Where the previous position is hidden, the last class that is not doesn't keep either.
	return r.last != api.StartID && has(r.Ignore, class) && !has(r.Keep, r.last)
}

// hide adds a hidden position.
func (r *Runner) hide() []int {
	if len(r.waiting) == 0 {
		return []int{isHidden}
	}
	r.waiting[len(r.waiting)-1].hidden++
	return nil
}

// finish tells all positions that wait.
func (r *Runner) finish() []int {
	var told []int
	for len(r.waiting) > 0 {
		told = append(told, r.decide()...)
	}
	return told
}

// decide tells the first position that waits, and the hidden ones directly behind it.
func (r *Runner) decide() []int {
	first := r.waiting[0]
	told := []int{firstRule(first.before & r.ahead())}
	r.waiting = slices.Delete(r.waiting, 0, 1)
	return append(told, slices.Repeat([]int{isHidden}, first.hidden)...)
}

// ahead is the rules that the right context of the first position that waits accepts.
func (r *Runner) ahead() uint64 {
	row := 0
	accepted := r.Right.Tells[row]
	for _, p := range r.waiting {
		row = r.right[row][r.Groups[p.class]]
		accepted |= r.Right.Tells[row]
	}
	return accepted
}

// firstRule is the number of the first one of some rules.
func firstRule(rules uint64) int {
	if rules == 0 {
		return noRule
	}
	return bits.TrailingZeros64(rules)
}
