package extract_test

import (
	"slices"
	"testing"

	"virgule/extract"
	"virgule/nest"
	"virgule/scalar"
	"virgule/token"
)

// model makes items by the chapter's words: the flags of each by looking back for tags.
type model struct {
	nest            *nest.Nest
	forcing, chance []int // where tags stand that force a break, and that offer a chance
	out             []extract.Item
}

// item is one item more.
func (m *model) item(r rune, at, size int) {
	previous := -1
	if n := len(m.out); n > 0 {
		previous = m.out[n-1].At
	}
	after := func(tag int) bool { return tag > previous }
	m.out = append(m.out, extract.Item{
		R: r, At: at, Size: size,
		Forced: slices.ContainsFunc(m.forcing, after), Chance: slices.ContainsFunc(m.chance, after),
		NoBreak: m.nest.NoBreak() > 0, Pre: m.nest.Pre() > 0,
	})
}

// take takes a token of b.
func (m *model) take(t token.Token, b []byte) {
	forces, offers := m.nest.Take(t)
	if forces {
		m.forcing = append(m.forcing, t.From)
	}
	if offers {
		m.chance = append(m.chance, t.From)
	}
	switch {
	case m.nest.Hidden() != 0:
	case t.Kind == token.Ref:
		m.item(t.R, t.From, t.To-t.From)
	case t.Kind == token.Text:
		bytes := b[t.From:t.To]
		starts := append(scalar.Starts(bytes), len(bytes))
		for i, r := range scalar.All(bytes) {
			m.item(r, t.From+starts[i], starts[i+1]-starts[i])
		}
	}
}

// items is all items of b.
func items(b []byte) []extract.Item {
	m := &model{nest: nest.New()}
	for _, t := range token.All(b) {
		m.take(t, b)
	}
	return m.out
}

// takes is the items of b, token by token.
func takes(t *testing.T, b []byte) []extract.Item {
	t.Helper()
	var out []extract.Item
	x := extract.New()
	for _, one := range token.All(b) {
		l := x.Take(one, b[one.From:one.To])
		if one.Kind != token.Text && one.Kind != token.Ref && len(l) != 0 || one.Kind == token.Ref && len(l) > 1 {
			t.Fatalf("%q: %+v: %+v", b, one, l)
		}
		out = append(out, l...)
	}
	return out
}

// hold holds all that is answered of a text against the model.
func hold(t *testing.T, s string) {
	t.Helper()
	b := []byte(s)
	got, want := extract.All(b), items(b)
	if !slices.Equal(got, want) {
		t.Fatalf("%q: %+v, not %+v", s, got, want)
	}
	if l := takes(t, b); !slices.Equal(l, want) { // P23.2, P23.3
		t.Fatalf("%q token by token: %+v, not %+v", s, l, want)
	}
	var text []byte
	end := 0
	for _, x := range got {
		if x.At < end || x.Size < 1 || x.At+x.Size > len(b) { // P23.3
			t.Fatalf("%q: %+v behind %d", s, x, end)
		}
		text, end = append(text, scalar.Put(x.R)...), x.At+x.Size
	}
	if extract.Text(got...) != string(text) {
		t.Fatalf("%q: the text %q", s, extract.Text(got...))
	}
}

// texts is all texts of up to so many of some pieces.
func texts(most int, pieces ...string) []string {
	out := []string{""}
	for last := out; most > 0; most-- {
		var longer []string
		for _, s := range last {
			for _, p := range pieces {
				longer = append(longer, s+p)
			}
		}
		out, last = append(out, longer...), longer
	}
	return out
}
