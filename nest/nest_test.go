package nest_test

import (
	"math/rand"
	"slices"
	"strings"
	"testing"

	"virgule/element"
	"virgule/nest"
	"virgule/token"
)

// tags is the tags of a text.
func tags(s string) []token.Token {
	return token.All([]byte(s))
}

// names is the names of all elements that are anything, and some others.
func names() []string {
	all := element.Names(element.Block | element.Void | element.Hidden | element.Pre | element.NoBreak | element.Break | element.Chance)
	return append(all, "", "b", "span", "PRE", "Nobr", "TITLE", "br ", " br", "pre nobr", "wb", "wbrr", "\xff", strings.Repeat("p", 1000))
}

// before is some tags that a nest may have taken.
func before() []string {
	return []string{"", "<title>", "<head><style/><title>", "<pre>", "<nobr><nobr>", "<pre><nobr>", "<pre><nobr><script>", "<template><pre>"}
}

// long is some more of them, up to the limits.
func long() []string {
	return []string{
		strings.Repeat("<noscript>", 254), strings.Repeat("<head>", 255), strings.Repeat("<head>", 300),
		strings.Repeat("<pre>", 254) + strings.Repeat("<nobr>", 254), strings.Repeat("<pre>", 255) + strings.Repeat("<nobr>", 255),
		strings.Repeat("<pre>", 260) + strings.Repeat("<nobr>", 260) + "<title>",
	}
}

// each holds every kind of token of some elements, in a nest that has taken some tags, against the model.
func each(t *testing.T, before []token.Token, names ...string) {
	t.Helper()
	for _, name := range names {
		for kind := -2; kind < 10; kind++ {
			for _, single := range []bool{false, true} {
				n, m := nest.New(), &model{}
				take(t, n, m, before...)
				take(t, n, m, token.Token{Kind: kind, Name: name, Single: single})
			}
		}
	}
}

func TestEachToken(t *testing.T) { // P22.1, for every kind of token of every element, in many nests
	for _, s := range before() {
		each(t, tags(s), names()...)
	}
	for _, s := range long() {
		each(t, tags(s), "title", "pre", "nobr", "p", "br", "wbr", "hr", "b")
	}
}

// told is what a nest tells of one token, and counts behind it.
type told struct {
	token                string
	forces, offers       bool
	hidden, pre, noBreak int
}

// hold holds a new nest that takes some tokens against what is written out by hand.
func hold(t *testing.T, l ...told) {
	t.Helper()
	n := nest.New()
	for i, x := range l {
		one := tags(x.token)
		if len(one) != 1 {
			t.Fatal(x.token, one)
		}
		forces, offers := n.Take(one[0])
		got := told{x.token, forces, offers, n.Hidden(), n.Pre(), n.NoBreak()}
		if got != x {
			t.Errorf("%d: %+v, not %+v", i, got, x)
		}
	}
}

func TestByHand(t *testing.T) { // P22.1
	hold(t, told{"<pre>", true, false, 0, 1, 0}, told{"<nobr>", false, false, 0, 1, 1}, told{"</pre>", true, false, 0, 0, 1})
	hold(t, // what changes no counts
		told{"<nobr/>", false, false, 0, 0, 0}, told{"<pre />", true, false, 0, 0, 0}, told{"<title/>", false, false, 0, 0, 0},
		told{"<b>", false, false, 0, 0, 0}, told{"</b>", false, false, 0, 0, 0}, told{"pre", false, false, 0, 0, 0},
		told{"&lt;", false, false, 0, 0, 0}, told{"<!--<pre>-->", false, false, 0, 0, 0}, told{"<!pre>", false, false, 0, 0, 0}, told{"\x1b[1m", false, false, 0, 0, 0})
	hold(t, // void elements
		told{"<br>", true, false, 0, 0, 0}, told{"<br/>", true, false, 0, 0, 0}, told{"</br>", false, false, 0, 0, 0},
		told{"<hr>", true, false, 0, 0, 0}, told{"<hr/>", true, false, 0, 0, 0}, told{"</hr>", false, false, 0, 0, 0},
		told{"<wbr>", false, true, 0, 0, 0}, told{"<wbr/>", false, true, 0, 0, 0}, told{"</wbr>", false, false, 0, 0, 0}, told{"<img>", false, false, 0, 0, 0})
	hold(t, // blocks
		told{"<p>", true, false, 0, 0, 0}, told{"<p/>", true, false, 0, 0, 0}, told{"</p>", true, false, 0, 0, 0}, told{"</p/>", true, false, 0, 0, 0}, told{"</UL x=1>", true, false, 0, 0, 0})
	hold(t, // what is hidden
		told{"<nobr>", false, false, 0, 0, 1}, told{"<title>", false, false, 1, 0, 1}, told{"<nobr>", false, false, 1, 0, 1}, told{"<pre>", false, false, 1, 0, 1},
		told{"<br>", false, false, 1, 0, 1}, told{"<wbr>", false, false, 1, 0, 1}, told{"<p>", false, false, 1, 0, 1}, told{"</p>", false, false, 1, 0, 1},
		told{"<head>", false, false, 2, 0, 1}, told{"</nobr>", false, false, 2, 0, 1}, told{"</style>", false, false, 1, 0, 1}, told{"<script/>", false, false, 1, 0, 1},
		told{"</template>", false, false, 0, 0, 1}, told{"</title>", false, false, 0, 0, 1}, told{"</pre>", true, false, 0, 0, 1}, told{"</nobr/>", false, false, 0, 0, 0}, told{"</nobr>", false, false, 0, 0, 0})
}

func TestLimits(t *testing.T) { // P22.1, P22.2
	for _, name := range []string{"title", "pre", "nobr"} {
		n := nest.New()
		count := map[string]func() int{"title": n.Hidden, "pre": n.Pre, "nobr": n.NoBreak}[name]
		start, end := token.Token{Kind: token.Start, Name: name}, token.Token{Kind: token.End, Name: name}
		for i := range 600 {
			if n.Take(start); count() != min(i+1, 255) {
				t.Fatal(name, i, count())
			}
		}
		for i := range 600 {
			if n.Take(end); count() != max(0, 254-i) {
				t.Fatal(name, i, count())
			}
		}
		if n.Take(start); count() != 1 {
			t.Error(name, count())
		}
	}
}

// some is a token by chance, most often one that is counted.
func some(rng *rand.Rand, ends int) token.Token {
	often := []string{"title", "head", "pre", "nobr", "nobr", "br", "p"}
	x := token.Token{Kind: token.Start, Name: often[rng.Intn(len(often))], Single: rng.Intn(9) == 0}
	if rng.Intn(10) < ends {
		x.Kind = token.End
	}
	if rng.Intn(20) == 0 {
		x.Kind = rng.Intn(10) - 1
	}
	if rng.Intn(20) == 0 {
		x.Name = names()[rng.Intn(len(names())-1)]
	}
	return x
}

func TestRuns(t *testing.T) { // P22.1, P22.2, for many tokens behind one another
	rng := rand.New(rand.NewSource(1))
	for range 300 {
		n, m := nest.New(), &model{}
		for range 20 {
			ends := rng.Intn(11)
			for range rng.Intn(120) {
				take(t, n, m, some(rng, ends))
			}
		}
	}
}

// mixed is as many end tags as start tags of each of some names, in any order.
func mixed(rng *rand.Rand, most int, names ...string) []token.Token {
	var l []token.Token
	for _, name := range names {
		for range rng.Intn(most) {
			l = append(l, token.Token{Kind: token.Start, Name: name}, token.Token{Kind: token.End, Name: name})
		}
	}
	rng.Shuffle(len(l), func(i, j int) { l[i], l[j] = l[j], l[i] })
	return l
}

func TestRestored(t *testing.T) { // P22.2
	rng := rand.New(rand.NewSource(2))
	for range 300 {
		n := nest.New()
		for _, x := range tags(strings.Repeat("<pre><nobr>", 100)) {
			n.Take(x)
		}
		for _, x := range mixed(rng, 90, "pre", "nobr", "p", "br") {
			n.Take(x)
		}
		if n.Hidden() != 0 || n.Pre() != 100 || n.NoBreak() != 100 {
			t.Fatal(n.Hidden(), n.Pre(), n.NoBreak())
		}
		for _, x := range append(tags(strings.Repeat("<head>", 100)), mixed(rng, 15, "title", "head", "script", "pre", "nobr")...) {
			n.Take(x)
		}
		if n.Hidden() != 100 || n.Pre() != 100 || n.NoBreak() != 100 {
			t.Fatal(n.Hidden(), n.Pre(), n.NoBreak())
		}
	}
}

func TestNil(t *testing.T) { // P22.1
	var n *nest.Nest
	for _, x := range append(tags("a<p><br><wbr><pre><nobr><title></p>&lt;"), token.Token{Kind: -1}) {
		if forces, offers := n.Take(x); forces || offers {
			t.Error(x)
		}
	}
	if n.Hidden() != 0 || n.Pre() != 0 || n.NoBreak() != 0 {
		t.Error(n.Hidden(), n.Pre(), n.NoBreak())
	}
}

func TestApart(t *testing.T) { // nests don't share anything
	a, b := nest.New(), nest.New()
	m, none := &model{}, &model{}
	for _, x := range slices.Concat(tags("<pre><nobr>"), tags("<title>")) {
		take(t, a, m, x)
		none.same(t, b, x)
	}
	take(t, b, none, tags("<nobr></pre>")...)
	m.same(t, a, "the other nest's tags")
}
