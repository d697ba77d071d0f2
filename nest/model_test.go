package nest_test

import (
	"testing"

	"virgule/element"
	"virgule/nest"
	"virgule/token"
)

// model counts by the chapter's words, sentence by sentence.
type model struct {
	hidden, pre, noBreak int
}

// counted is one of the counts, and the bit of what it counts.
type counted struct {
	count *int
	bit   int
}

// changes is the counts that a tag may change: all, or the hidden count alone.
func (m *model) changes() []counted {
	l := []counted{{&m.hidden, element.Hidden}, {&m.pre, element.Pre}, {&m.noBreak, element.NoBreak}}
	if m.hidden > 0 {
		return l[:1]
	}
	return l
}

// take takes a token.
func (m *model) take(t token.Token) (forces, offers bool) {
	has := func(bit int) bool { return element.Has(t.Name, bit) }
	start, end := t.Kind == token.Start, t.Kind == token.End
	if m.hidden == 0 {
		forces = start && has(element.Block) || start && has(element.Break) || end && has(element.Block) && !has(element.Void)
		offers = start && has(element.Chance)
	}
	for _, x := range m.changes() {
		if start && !t.Single && !has(element.Void) && has(x.bit) && *x.count != 255 {
			*x.count++
		}
		if end && !has(element.Void) && has(x.bit) && *x.count != 0 {
			*x.count--
		}
	}
	return forces, offers
}

// same has that a nest counts what the model does.
func (m *model) same(t *testing.T, n *nest.Nest, what any) {
	t.Helper()
	if n.Hidden() != m.hidden || n.Pre() != m.pre || n.NoBreak() != m.noBreak {
		t.Fatalf("%+v: %d, %d, %d, not %+v", what, n.Hidden(), n.Pre(), n.NoBreak(), *m)
	}
}

// take holds a nest that takes tokens against the model.
func take(t *testing.T, n *nest.Nest, m *model, l ...token.Token) {
	t.Helper()
	for _, x := range l {
		forces, offers := n.Take(x)
		wantForces, wantOffers := m.take(x)
		if forces != wantForces || offers != wantOffers {
			t.Fatalf("%+v: %v, %v, not %v, %v", x, forces, offers, wantForces, wantOffers)
		}
		m.same(t, n, x)
	}
}
