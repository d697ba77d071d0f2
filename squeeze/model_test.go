package squeeze_test

import (
	"math/rand"
	"slices"
	"testing"

	"virgule/api"
	"virgule/dfa"
	"virgule/squeeze"
)

// lead tells whether two symbols lead, in each of the tables that is valid, from each state to the same state.
func lead(l []dfa.DFA, a, b int) bool {
	for _, d := range l {
		if !dfa.Right(d) {
			continue
		}
		for _, row := range d.Next {
			if row[a] != row[b] {
				return false
			}
		}
	}
	return true
}

// many is how many groups a valid grouping has, 0 for one that is not valid: by the chapter's words, symbol by symbol.
func many(groups []int) int {
	if len(groups) != 37 || groups[0] != 0 {
		return 0
	}
	unused := 1
	for symbol := 1; symbol < 37; symbol++ {
		switch {
		case slices.Contains(groups[:symbol], groups[symbol]):
		case groups[symbol] == unused:
			unused++
		default:
			return 0
		}
	}
	return unused
}

// right tells whether a narrow table is valid.
func right(n squeeze.Narrow) bool {
	count := many(n.Groups)
	if count == 0 {
		return false
	}
	for _, row := range n.Next {
		if len(row) != count {
			return false
		}
	}
	return dfa.Right(wide(n))
}

// wide is the table in which each symbol leads where its group leads.
func wide(n squeeze.Narrow) dfa.DFA {
	d := dfa.DFA{Tells: slices.Clone(n.Tells)}
	for _, row := range n.Next {
		var next []int
		for symbol := range 37 {
			next = append(next, row[n.Groups[symbol]])
		}
		d.Next = append(d.Next, next)
	}
	return d
}

// narrow is the narrow table of a valid table by a valid grouping, if there is one.
func narrow(groups []int, d dfa.DFA) (squeeze.Narrow, bool) {
	for a := range 37 {
		for b := range a {
			if groups[a] == groups[b] && !lead([]dfa.DFA{d}, a, b) {
				return squeeze.Narrow{}, false
			}
		}
	}
	n := squeeze.Narrow{Groups: slices.Clone(groups), Tells: slices.Clone(d.Tells)}
	for _, row := range d.Next {
		var next []int
		for group := range many(groups) {
			next = append(next, row[slices.Index(groups, group)])
		}
		n.Next = append(n.Next, next)
	}
	return n, true
}

// same tells whether two narrow tables are equal element by element.
func same(a, b squeeze.Narrow) bool {
	return slices.Equal(a.Groups, b.Groups) && dfa.Same(dfa.DFA{Next: a.Next, Tells: a.Tells}, dfa.DFA{Next: b.Next, Tells: b.Tells})
}

// isEmpty tells whether there is nothing in a narrow table.
func isEmpty(n squeeze.Narrow) bool {
	return same(n, squeeze.Narrow{})
}

// hold holds the grouping of tables, and their narrow tables by it, against the chapter's terms.
func hold(t *testing.T, l ...dfa.DFA) {
	t.Helper()
	groups := squeeze.Groups(l...)
	if count := many(groups); count == 0 || squeeze.Many(groups) != count {
		t.Fatalf("%v: Groups %d, Many %d, not %d", l, groups, squeeze.Many(groups), count)
	}
	for a := range 37 {
		for b := range a {
			if (groups[a] == groups[b]) != lead(l, a, b) {
				t.Fatalf("%v: symbols %d and %d: Groups %d", l, a, b, groups)
			}
		}
	}
	for _, d := range l {
		if dfa.Right(d) {
			holdMake(t, groups, d)
			if n, err := squeeze.Make(groups, d); err != api.OK || !squeeze.Right(n) {
				t.Fatalf("%v: by the tables' own grouping: %d", d, err)
			}
		}
	}
}

// holdMake holds the narrow table of a valid table by a valid grouping, and what it is made wide to.
func holdMake(t *testing.T, groups []int, d dfa.DFA) {
	t.Helper()
	n, err := squeeze.Make(groups, d)
	want, ok := narrow(groups, d)
	if !ok {
		if err != api.ErrForm || !isEmpty(n) {
			t.Fatalf("Make of %v by %d: %v, %d, not ErrForm", d, groups, n, err)
		}
		return
	}
	if err != api.OK || !same(n, want) {
		t.Fatalf("Make of %v by %d: %v, %d", d, groups, n, err)
	}
	if got, ok := squeeze.Wide(n); !ok || !squeeze.Right(n) || !dfa.Same(got, d) {
		t.Fatalf("Wide of %v: %v, %t, not %v", n, got, ok, d)
	}
}

// holdNarrow holds Right and Wide of any narrow table against the chapter's terms, and whether it is valid.
func holdNarrow(t *testing.T, what string, n squeeze.Narrow, isValid bool) {
	t.Helper()
	if right(n) != isValid {
		t.Fatalf("%s: the test itself is wrong", what)
	}
	got, ok := squeeze.Wide(n)
	if ok != isValid || squeeze.Right(n) != isValid {
		t.Fatalf("%s: Right %t, Wide %t, not %t", what, squeeze.Right(n), ok, isValid)
	}
	if !isValid {
		if len(got.Next) != 0 || len(got.Tells) != 0 {
			t.Fatalf("%s: Wide: %v", what, got)
		}
		return
	}
	if !dfa.Same(got, wide(n)) {
		t.Fatalf("%s: Wide: %v, not %v", what, got, wide(n))
	}
	if back, err := squeeze.Make(n.Groups, got); err != api.OK || !same(back, n) {
		t.Fatalf("%s: Make of Wide: %v, %d, not %v", what, back, err, n)
	}
}

// ordered is the valid grouping in which symbols are together that have equal keys.
func ordered(keys []int) []int {
	var seen, out []int
	for _, key := range keys {
		if !slices.Contains(seen, key) {
			seen = append(seen, key)
		}
		out = append(out, slices.Index(seen, key))
	}
	return out
}

// randomGroups is some valid grouping of at most so many groups.
func randomGroups(rng *rand.Rand, most int) []int {
	keys := make([]int, 37)
	for symbol := range keys {
		keys[symbol] = rng.Intn(most)
	}
	return ordered(keys)
}

// randomTable is some valid table of a narrow one by this grouping.
func randomTable(rng *rand.Rand, groups []int, states int) dfa.DFA {
	n := squeeze.Narrow{Groups: groups}
	for range states {
		var row []int
		for range many(groups) {
			row = append(row, rng.Intn(states))
		}
		n.Next, n.Tells = append(n.Next, row), append(n.Tells, rng.Uint64())
	}
	return wide(n)
}

// copied is a table by itself.
func copied(d dfa.DFA) dfa.DFA {
	out := dfa.DFA{Tells: slices.Clone(d.Tells)}
	for _, next := range d.Next {
		out.Next = append(out.Next, slices.Clone(next))
	}
	return out
}

// copiedNarrow is a narrow table by itself.
func copiedNarrow(n squeeze.Narrow) squeeze.Narrow {
	d := copied(dfa.DFA{Next: n.Next, Tells: n.Tells})
	return squeeze.Narrow{Groups: slices.Clone(n.Groups), Next: d.Next, Tells: d.Tells}
}
