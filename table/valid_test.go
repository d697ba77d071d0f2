package table_test

import (
	"math"
	"slices"
	"testing"

	"virgule/pack"
	"virgule/table"
)

// small is a table of three groups, of two rules, and of two rows on the left and three on the right.
func small() table.Table {
	packed := func(rows ...[]int) pack.Packed {
		p, _ := pack.Pack(3, rows...)
		return p
	}
	return table.Table{
		Ignore: 1 << extend, Keep: 1 << lf, Break: 2, Rules: 2,
		Groups: groupsExcept(map[int]int{cr: 1, lf: 2}),
		Left:   table.Part{Packed: packed([]int{0, 1, 0}, []int{0, 1, 1}), Tells: []uint64{2, 3}},
		Right:  table.Part{Packed: packed([]int{1, 1, 2}, []int{1, 1, 1}, []int{2, 0, 1}), Tells: []uint64{0, 2, 1}},
	}
}

// wrong is tables of which each breaks one of the chapter's conditions.
func wrong() map[string]table.Table {
	out := map[string]table.Table{"nothing": {}}
	add := func(what string, change func(x *table.Table)) {
		x := small()
		change(&x)
		out[what] = x
	}
	empty := func(x *table.Table) { x.Break, x.Left.Tells, x.Right.Tells = 0, []uint64{0, 0}, []uint64{0, 0, 0} }
	add("rules below 0", func(x *table.Table) { empty(x); x.Rules = -1 })
	add("the least number of rules", func(x *table.Table) { empty(x); x.Rules = math.MinInt })
	add("a rule more than may be", func(x *table.Table) { x.Rules = 41 })
	add("64 rules", func(x *table.Table) { x.Rules = 64 })
	add("the most rules", func(x *table.Table) { x.Rules = math.MaxInt })
	add("ignored, no class", func(x *table.Table) { x.Ignore |= 1 << 36 })
	add("ignored, the last bit", func(x *table.Table) { x.Ignore |= 1 << 63 })
	add("keeping, no class", func(x *table.Table) { x.Keep |= 1 << 36 })
	add("keeping, the last bit", func(x *table.Table) { x.Keep |= 1 << 63 })
	add("breaking, no rule", func(x *table.Table) { x.Break |= 4 })
	add("breaking, the last bit", func(x *table.Table) { x.Break |= 1 << 63 })
	add("breaking, a rule that there isn't", func(x *table.Table) { empty(x); x.Rules, x.Break = 0, 1 })
	add("breaking, behind forty", func(x *table.Table) { x.Rules, x.Break = 40, 1<<40 })
	add("no groups", func(x *table.Table) { x.Groups = nil })
	add("36 symbols", func(x *table.Table) { x.Groups = x.Groups[:36] })
	add("38 symbols", func(x *table.Table) { x.Groups = append(x.Groups, 0) })
	add("a first group that isn't 0", func(x *table.Table) { x.Groups[0] = 1 })
	add("a group that comes too early", func(x *table.Table) { x.Groups[cr], x.Groups[lf] = 2, 1 })
	add("a group that is missing", func(x *table.Table) { x.Groups[lf] = 3 })
	add("a group below 0", func(x *table.Table) { x.Groups[36] = -1 })
	add("less groups than the width", func(x *table.Table) { x.Groups[lf] = 0 })
	add("more groups than the width", func(x *table.Table) { x.Groups[36] = 3 })
	for name, part := range map[string]func(x *table.Table) *table.Part{
		"left":  func(x *table.Table) *table.Part { return &x.Left },
		"right": func(x *table.Table) *table.Part { return &x.Right },
	} {
		for what, change := range wrongParts() {
			add(name+": "+what, func(x *table.Table) { change(part(x)) })
		}
		add(name+": an accepted rule that there isn't", func(x *table.Table) { empty(x); x.Rules, part(x).Tells[1] = 0, 1 })
		add(name+": an accepted rule behind forty", func(x *table.Table) { x.Rules, part(x).Tells[1] = 40, 1<<40 })
	}
	return out
}

// wrongParts is changes of which each makes a part of the small table wrong.
func wrongParts() map[string]func(p *table.Part) {
	return map[string]func(p *table.Part){
		"nothing": func(p *table.Part) { *p = table.Part{} },
		"no row":  func(p *table.Part) { *p = table.Part{Packed: pack.Packed{Width: 3}} },
		"no row, but slots": func(p *table.Part) {
			p.Usual, p.Base, p.Check, p.Tells = nil, nil, []int{-1, -1, -1, -1}[:len(p.Next)], nil
		},
		"a width of 0":                 func(p *table.Part) { p.Width = 0 },
		"a lesser width":               func(p *table.Part) { p.Width = 2 },
		"a greater width":              func(p *table.Part) { p.Width = 4 },
		"less Tells":                   func(p *table.Part) { p.Tells = p.Tells[1:] },
		"more Tells":                   func(p *table.Part) { p.Tells = append(p.Tells, 0) },
		"no Tells":                     func(p *table.Part) { p.Tells = nil },
		"an accepted bit, no rule":     func(p *table.Part) { p.Tells[0] |= 4 },
		"an accepted bit, last row":    func(p *table.Part) { p.Tells[len(p.Tells)-1] |= 4 },
		"the last accepted bit":        func(p *table.Part) { p.Tells[1] |= 1 << 63 },
		"a usual element, no row":      func(p *table.Part) { p.Usual[1] = len(p.Usual) },
		"a usual element below 0":      func(p *table.Part) { p.Usual[0] = -1 },
		"another element, no row":      func(p *table.Part) { p.Next[slices.Index(p.Check, 0)] = len(p.Usual) },
		"another element below 0":      func(p *table.Part) { p.Next[slices.Index(p.Check, 0)] = -1 },
		"the greatest element":         func(p *table.Part) { p.Next[slices.Index(p.Check, 0)] = 65535 },
		"no element":                   func(p *table.Part) { p.Next[slices.Index(p.Check, 0)] = 65536 },
		"less bases":                   func(p *table.Part) { p.Base = p.Base[1:] },
		"a base below 0":               func(p *table.Part) { p.Base[1] = -1 },
		"a base that is too great":     func(p *table.Part) { p.Base[1] = 65536 },
		"Check below -1":               func(p *table.Part) { p.Check[0] = -2 },
		"Check behind the last row":    func(p *table.Part) { p.Check[0] = len(p.Usual) },
		"Check without Next":           func(p *table.Part) { p.Check = append(p.Check, -1) },
		"Next without Check":           func(p *table.Part) { p.Next = append(p.Next, 0) },
		"a free slot's Next below 0":   func(p *table.Part) { p.Check, p.Next = append(p.Check, -1), append(p.Next, -1) },
		"more slots than may be":       func(p *table.Part) { grow(p, 65600) },
		"more rows than may be":        func(p *table.Part) { lengthen(p, 1001) },
		"more rows than may be, equal": func(p *table.Part) { *p = equalRows(1001) },
	}
}

// grow adds free slots to a part, up to so many.
func grow(p *table.Part, slots int) {
	for len(p.Check) < slots {
		p.Check, p.Next = append(p.Check, -1), append(p.Next, 0)
	}
}

// lengthen adds rows without slots to a part, up to so many.
func lengthen(p *table.Part, rows int) {
	for len(p.Usual) < rows {
		p.Usual, p.Base, p.Tells = append(p.Usual, len(p.Usual)), append(p.Base, 0), append(p.Tells, 0)
	}
}

// equalRows is a part of so many rows that lead to the first one.
func equalRows(rows int) table.Part {
	return table.Part{Packed: pack.Packed{Width: 3, Usual: make([]int, rows), Base: make([]int, rows)}, Tells: make([]uint64, rows)}
}

// valid is tables at the conditions' edges.
func valid() map[string]table.Table {
	out := map[string]table.Table{"the small one": small()}
	add := func(what string, change func(x *table.Table)) {
		x := small()
		change(&x)
		out[what] = x
	}
	add("all classes", func(x *table.Table) { x.Ignore, x.Keep = 1<<36-1, 1<<36-1 })
	add("no classes", func(x *table.Table) { x.Ignore, x.Keep = 0, 0 })
	add("no rules break", func(x *table.Table) { x.Break = 0 })
	add("all rules break", func(x *table.Table) { x.Break = 3 })
	add("no rules", func(x *table.Table) {
		x.Rules, x.Break, x.Left.Tells, x.Right.Tells = 0, 0, []uint64{0, 0}, []uint64{0, 0, 0}
	})
	add("forty rules", func(x *table.Table) { x.Rules = 40 })
	add("forty rules that break and are accepted", func(x *table.Table) {
		x.Rules, x.Break, x.Left.Tells[1], x.Right.Tells[2] = 40, 1<<40-1, 1<<40-1, 1<<39
	})
	add("as many rows as may be on the left", func(x *table.Table) { lengthen(&x.Left, 1000); x.Left.Usual[0] = 999 })
	add("as many rows as may be on the right", func(x *table.Table) { lengthen(&x.Right, 1000); x.Right.Usual[1] = 999 })
	add("one row on the left", func(x *table.Table) { x.Left = equalRows(1) })
	add("one row on the right", func(x *table.Table) { x.Right = equalRows(1) })
	add("the last row as an element", func(x *table.Table) { x.Right.Usual[1], x.Left.Usual[0] = 2, 1 })
	add("as many slots as may be", func(x *table.Table) { grow(&x.Left, 65599) })
	add("the greatest base", func(x *table.Table) { x.Left.Base[1], x.Right.Base[1] = 65535, 65535 })
	add("free slots with elements that are no rows", func(x *table.Table) {
		x.Left.Check, x.Left.Next = append(x.Left.Check, -1), append(x.Left.Next, 65535)
		x.Right.Check, x.Right.Next = append(x.Right.Check, -1), append(x.Right.Next, 65535)
	})
	add("a slot of a row behind its columns", func(x *table.Table) {
		grow(&x.Left, 40)
		x.Left.Check[39], x.Left.Next[39] = 0, 65535
	})
	add("a usual element that no column has", func(x *table.Table) {
		x.Left = table.Part{Packed: pack.Packed{Width: 3, Usual: []int{65535}, Base: []int{0}, Check: []int{0, 0, 0}, Next: []int{0, 0, 0}}, Tells: []uint64{1}}
	})
	add("a group for each symbol", func(x *table.Table) {
		for symbol := range x.Groups {
			x.Groups[symbol] = symbol
		}
		x.Left.Width, x.Right.Width = 37, 37
	})
	add("one group", func(x *table.Table) {
		x.Groups = groupsExcept(nil)
		x.Left.Width, x.Right.Width = 1, 1
	})
	add("spare capacity", func(x *table.Table) {
		x.Groups = append(x.Groups, 99)[:37]
		x.Left.Tells = append(x.Left.Tells, 1<<63)[:2]
		x.Right.Usual = append(x.Right.Usual, 99)[:3]
	})
	return out
}

func TestRight(t *testing.T) {
	for what, x := range valid() {
		if !table.Right(x) {
			t.Error(what)
		}
		for _, ids := range [][]int{nil, {classL}, {cr, lf, extend, cr, lf, lf, cr, 99, extend, cr}} {
			hold(t, what, x, ids)
		}
	}
	for what, x := range wrong() {
		if table.Right(x) {
			t.Error(what)
		}
	}
}

// TestWrong asks tables that are not valid.
func TestWrong(t *testing.T) {
	for what, x := range wrong() {
		if x.Run() != nil {
			t.Errorf("%s: Run", what)
		}
		for _, ids := range [][]int{nil, {}, {cr}, {cr, lf}, {cr, lf, extend, 99, -1, cr, lf, lf, lf}} {
			if got := x.Breaks(ids); len(got) != 0 {
				t.Errorf("%s: Breaks(%d): %t", what, ids, got)
			}
			for _, i := range places(ids) {
				if got := x.Which(ids, i); got != -1 {
					t.Errorf("%s: Which(%d, %d): %d", what, ids, i, got)
				}
			}
		}
	}
}

// differing is ways to make a table another one, each in one of its parts.
func differing() map[string]func(x *table.Table) {
	out := map[string]func(x *table.Table){
		"Ignore":      func(x *table.Table) { x.Ignore ^= 1 << 35 },
		"Ignore's 63": func(x *table.Table) { x.Ignore ^= 1 << 63 },
		"Keep":        func(x *table.Table) { x.Keep ^= 1 },
		"Break":       func(x *table.Table) { x.Break ^= 1 },
		"Rules":       func(x *table.Table) { x.Rules++ },
		"a group":     func(x *table.Table) { x.Groups[36]++ },
		"less groups": func(x *table.Table) { x.Groups = x.Groups[:36] },
		"no groups":   func(x *table.Table) { x.Groups = nil },
		"both parts":  func(x *table.Table) { x.Left, x.Right = x.Right, x.Left },
	}
	for name, part := range map[string]func(x *table.Table) *table.Part{
		"left":  func(x *table.Table) *table.Part { return &x.Left },
		"right": func(x *table.Table) *table.Part { return &x.Right },
	} {
		for what, list := range map[string]func(p *table.Part) *[]int{
			"Usual": func(p *table.Part) *[]int { return &p.Usual },
			"Base":  func(p *table.Part) *[]int { return &p.Base },
			"Check": func(p *table.Part) *[]int { return &p.Check },
			"Next":  func(p *table.Part) *[]int { return &p.Next },
		} {
			out[name+" "+what] = func(x *table.Table) { (*list(part(x)))[1]++ }
			out[name+" less "+what] = func(x *table.Table) { *list(part(x)) = (*list(part(x)))[1:] }
			out[name+" more "+what] = func(x *table.Table) { *list(part(x)) = append(*list(part(x)), 0) }
		}
		out[name+" Width"] = func(x *table.Table) { part(x).Width++ }
		out[name+" Tells"] = func(x *table.Table) { part(x).Tells[1] ^= 1 << 50 }
		out[name+" less Tells"] = func(x *table.Table) { part(x).Tells = part(x).Tells[:1] }
		out[name+" more Tells"] = func(x *table.Table) { part(x).Tells = append(part(x).Tells, 0) }
		out[name+" nothing"] = func(x *table.Table) { *part(x) = table.Part{} }
	}
	return out
}

func TestSame(t *testing.T) {
	for what, change := range differing() {
		x, y := small(), small()
		if !table.Same(x, y) {
			t.Fatal("equal tables")
		}
		change(&y)
		if table.Same(x, y) || table.Same(y, x) {
			t.Error(what)
		}
		change(&x)
		if !table.Same(x, y) {
			t.Error(what, "of both")
		}
	}
	for what, x := range wrong() {
		if !table.Same(x, x) || !table.Same(x, copied(x)) || table.Same(x, small()) {
			t.Error(what)
		}
	}
	none := table.Table{Groups: []int{}, Left: table.Part{Packed: pack.Packed{Usual: []int{}, Next: []int{}}, Tells: []uint64{}}}
	if !table.Same(table.Table{}, none) {
		t.Error("empty lists")
	}
}

// TestSameRules compares tables of rule sets: what differs in its text only is the same.
func TestSameRules(t *testing.T) {
	x := read(t, "ignore Extend LF", "(L|V)* ! V")
	if !table.Same(x, read(t, "# the same", "let a = V|L", "ignore LF Extend", "a* ! V")) {
		t.Error("the same")
	}
	for _, lines := range []string{
		"ignore Extend\n(L|V)* ! V", "ignore Extend LF\n(L|V)* / V", "keep Extend LF\n(L|V)* ! V",
		"ignore Extend LF\n(L|V)* ! V\n(L|V)* ! V", "ignore Extend LF\n(L|V)+ ! V", "ignore Extend LF\n(L|V)* ! L", "",
	} {
		if table.Same(x, read(t, lines)) {
			t.Errorf("%q", lines)
		}
	}
}
