package table_test

import (
	"math"
	"math/rand"
	"slices"
	"strings"
	"testing"

	"virgule/api"
	"virgule/decide"
	"virgule/pack"
	"virgule/rule"
	"virgule/table"
)

// Classes of layer 4 that the tests use.
const (
	other    = 0
	cr       = 1
	lf       = 2
	extend   = 5
	regional = 8
	classL   = 11
	classV   = 12
	classT   = 13
	gap      = 35
)

// parsed is what lines of a rule text mean.
func parsed(t *testing.T, lines ...string) rule.Text {
	t.Helper()
	x, at, err := rule.Parse(strings.Join(lines, "\n"))
	if err != api.OK {
		t.Fatalf("rule.Parse(%q): %d, %d", lines, at, err)
	}
	return x
}

// compiled is the table of a rule set.
func compiled(t *testing.T, x rule.Text) table.Table {
	t.Helper()
	got, err := table.Compile(x)
	if err != api.OK || !table.Right(got) {
		t.Fatalf("Compile(%q): %d, Right %t", rule.Print(x), err, table.Right(got))
	}
	return got
}

// read is the table of lines of a rule text.
func read(t *testing.T, lines ...string) table.Table {
	t.Helper()
	x, at, err := table.Read(strings.Join(lines, "\n"))
	if err != api.OK || at != 0 || !table.Right(x) {
		t.Fatalf("Read(%q): %d, %d, Right %t", lines, at, err, table.Right(x))
	}
	return x
}

// model is a valid table and a list, by the chapter's words.
type model struct {
	table table.Table
	ids   []int // as classes
}

// newModel has the numbers of a list that are no classes count as 0.
func newModel(x table.Table, ids []int) model {
	m := model{table: x}
	for _, id := range ids {
		if id < 0 || id > 35 {
			id = 0
		}
		m.ids = append(m.ids, id)
	}
	return m
}

// hidden tells whether a position is hidden.
func (m model) hidden(i int) bool {
	isIgnored := m.table.Ignore&(1<<m.ids[i]) != 0
	if i == 0 || !isIgnored {
		return false
	}
	return m.hidden(i-1) || m.table.Keep&(1<<m.ids[i-1]) == 0
}

// to is where a symbol leads from a row.
func (m model) to(p table.Part, row, symbol int) int {
	next, ok := pack.Get(p.Packed, row, m.table.Groups[symbol])
	if !ok {
		return -1
	}
	return next
}

// contexts is the left and the right context of a position.
func (m model) contexts(i int) (left, right []int) {
	left = []int{36}
	for k, class := range m.ids {
		switch {
		case m.hidden(k):
		case k < i:
			left = append(left, class)
		default:
			right = append(right, class)
		}
	}
	return left, right
}

// which is the first rule that both contexts of a position accept.
func (m model) which(i int) int {
	if i <= 0 || i >= len(m.ids) || m.hidden(i) {
		return -1
	}
	left, right := m.contexts(i)
	row := 0
	for _, symbol := range left {
		row = m.to(m.table.Left, row, symbol)
	}
	behind := m.table.Left.Tells[row]
	row = 0
	ahead := m.table.Right.Tells[row]
	for _, symbol := range right[:min(4, len(right))] {
		row = m.to(m.table.Right, row, symbol)
		ahead |= m.table.Right.Tells[row]
	}
	for k := range m.table.Rules {
		if behind&ahead&(1<<k) != 0 {
			return k
		}
	}
	return -1
}

// isBreak tells whether there is a break before a position.
func (m model) isBreak(i int) bool {
	if i == 0 || i == len(m.ids) {
		return true
	}
	k := m.which(i)
	return !m.hidden(i) && (k < 0 || m.table.Break&(1<<k) != 0)
}

// decided is how many positions can be decided, from the second one on, as long as the list may go on.
func (m model) decided() int {
	count := 0
	for i := 1; i < len(m.ids); i++ {
		known := 0
		for k := i; k < len(m.ids); k++ {
			if !m.hidden(k) {
				known++
			}
		}
		if !m.hidden(i) && known < 4 {
			break
		}
		count++
	}
	return count
}

// hold holds all answers of a valid table for a list against the chapter's words.
func hold(t *testing.T, what string, x table.Table, ids []int) {
	t.Helper()
	m := newModel(x, ids)
	var want []bool
	for i := range len(ids) + 1 {
		want = append(want, m.isBreak(i))
	}
	if got := x.Breaks(ids); !slices.Equal(got, want) {
		t.Fatalf("%s: Breaks(%d): %t, not %t", what, ids, got, want)
	}
	for _, i := range places(ids) {
		if got, want := x.Which(ids, i), m.which(i); got != want {
			t.Fatalf("%s: Which(%d, %d): %d, not %d", what, ids, i, got, want)
		}
	}
	holdRunner(t, what, x, ids, want)
}

// places is the positions of a list, and some outside.
func places(ids []int) []int {
	out := []int{math.MinInt, -1 << 32, math.MaxInt, 1 << 32}
	for i := -3; i < len(ids)+4; i++ {
		out = append(out, i)
	}
	return out
}

// holdRunner asks a runner of each class of a list, and holds it against the breaks of the whole list.
func holdRunner(t *testing.T, what string, x table.Table, ids []int, breaks []bool) {
	t.Helper()
	r := x.Run()
	if r == nil {
		t.Fatalf("%s: Run: nil", what)
	}
	done := 0
	for i, id := range ids {
		got := r.Push(id)
		count := newModel(x, ids[:i+1]).decided()
		if want := breaks[1+done : 1+count]; !slices.Equal(got, want) {
			t.Fatalf("%s: %d: Push of %d: %t, not %t", what, ids, i, got, want)
		}
		done = count
		if got := r.Waits(); got != i-done {
			t.Fatalf("%s: %d: Waits behind %d: %d, not %d", what, ids, i, got, i-done)
		}
	}
	rest := breaks[1+done:]
	if len(ids) > 0 {
		rest = rest[:len(rest)-1]
	}
	if got := r.Close(); !slices.Equal(got, rest) {
		t.Fatalf("%s: %d: Close: %t, not %t", what, ids, got, rest)
	}
	holdClosed(t, what, r)
}

// holdClosed asks a runner that is closed, twice.
func holdClosed(t *testing.T, what string, r *table.Runner) {
	t.Helper()
	for _, id := range []int{classL, extend, other, 36, -1, lf, lf, lf, lf, lf} {
		if r.Waits() != 0 || len(r.Push(id)) != 0 || r.Waits() != 0 || len(r.Close()) != 0 || r.Waits() != 0 {
			t.Fatalf("%s: closed, and pushed %d", what, id)
		}
	}
}

// holdDecide holds a table of a rule set against chapter 7.
func holdDecide(t *testing.T, x table.Table, set rule.Text, ids []int) {
	t.Helper()
	if got, want := x.Breaks(ids), decide.Breaks(set, ids); !slices.Equal(got, want) {
		t.Fatalf("%q: Breaks(%d): %t, not %t", rule.Print(set), ids, got, want)
	}
	for _, i := range places(ids) {
		if got, want := x.Which(ids, i), decide.Which(set, ids, i); got != want {
			t.Fatalf("%q: Which(%d, %d): %d, not %d", rule.Print(set), ids, i, got, want)
		}
	}
	if got, want := together(x.Run(), ids), inner(decide.Breaks(set, ids)); !slices.Equal(got, want) {
		t.Fatalf("%q: a runner, %d: %t, not %t", rule.Print(set), ids, got, want)
	}
}

// together is all that a runner answers for a list.
func together(r *table.Runner, ids []int) []bool {
	var out []bool
	for _, id := range ids {
		out = append(out, r.Push(id)...)
	}
	return append(out, r.Close()...)
}

// inner is breaks without the first and the last one.
func inner(breaks []bool) []bool {
	if len(breaks) < 2 {
		return nil
	}
	return breaks[1 : len(breaks)-1]
}

// lists is all lists of some numbers, up to a length.
func lists(length int, numbers ...int) [][]int {
	out := [][]int{nil}
	for from := 0; length > 0; length-- {
		to := len(out)
		for _, l := range out[from:to] {
			for _, n := range numbers {
				out = append(out, append(slices.Clone(l), n))
			}
		}
		from = to
	}
	return out
}

// randomList is some list, mostly of a few classes.
func randomList(rng *rand.Rand, most int) []int {
	out := make([]int, rng.Intn(most+1))
	for i := range out {
		out[i] = []int{classL, classV, extend, extend, other, rng.Intn(40) - 2}[rng.Intn(6)]
	}
	return out
}

// texts writes breaks as one text.
func texts(l []bool) string {
	var out strings.Builder
	for _, b := range l {
		if b {
			out.WriteByte('1')
		} else {
			out.WriteByte('0')
		}
	}
	return out.String()
}

// copied is a table by itself.
func copied(x table.Table) table.Table {
	x.Groups = slices.Clone(x.Groups)
	for _, p := range []*table.Part{&x.Left, &x.Right} {
		for _, l := range []*[]int{&p.Usual, &p.Base, &p.Check, &p.Next} {
			*l = slices.Clone(*l)
		}
		p.Tells = slices.Clone(p.Tells)
	}
	return x
}

// spoil overwrites a list and its spare capacity.
func spoil[T any](l []T) {
	clear(l[:cap(l)])
}

// spoilers is a way to overwrite each of the lists of a table, by name.
func spoilers() map[string]func(x table.Table) {
	return map[string]func(x table.Table){
		"Groups":      func(x table.Table) { spoil(x.Groups) },
		"Left.Usual":  func(x table.Table) { spoil(x.Left.Usual) },
		"Left.Base":   func(x table.Table) { spoil(x.Left.Base) },
		"Left.Check":  func(x table.Table) { spoil(x.Left.Check) },
		"Left.Next":   func(x table.Table) { spoil(x.Left.Next) },
		"Left.Tells":  func(x table.Table) { spoil(x.Left.Tells) },
		"Right.Usual": func(x table.Table) { spoil(x.Right.Usual) },
		"Right.Base":  func(x table.Table) { spoil(x.Right.Base) },
		"Right.Check": func(x table.Table) { spoil(x.Right.Check) },
		"Right.Next":  func(x table.Table) { spoil(x.Right.Next) },
		"Right.Tells": func(x table.Table) { spoil(x.Right.Tells) },
	}
}

// isEmpty tells whether there is nothing in a table.
func isEmpty(x table.Table) bool {
	isNone := func(p table.Part) bool {
		return p.Width == 0 && len(p.Usual)+len(p.Base)+len(p.Check)+len(p.Next)+len(p.Tells) == 0
	}
	return x.Ignore|x.Keep|x.Break == 0 && x.Rules == 0 && len(x.Groups) == 0 && isNone(x.Left) && isNone(x.Right)
}
