package element_test

import (
	"slices"
	"strings"
	"testing"

	"virgule/element"
)

// written is the chapter's list: the names of each bit.
func written() map[int]string {
	return map[int]string{
		1:  "address, article, aside, blockquote, body, center, dd, details, dialog, div, dl, dt, fieldset, figcaption, figure, footer, form, h1, h2, h3, h4, h5, h6, header, hr, html, li, main, nav, ol, p, pre, section, summary, table, tbody, td, tfoot, th, thead, tr, ul",
		2:  "area, base, br, col, embed, hr, img, input, link, meta, source, track, wbr",
		4:  "head, noscript, script, style, template, title",
		8:  "pre",
		16: "nobr",
		32: "br",
		64: "wbr",
	}
}

// bitsOf is what the chapter's list says of each name in it.
func bitsOf() map[string]int {
	out := map[string]int{}
	for bit, names := range written() {
		for _, name := range strings.Split(names, ", ") {
			out[name] += bit
		}
	}
	return out
}

func TestConstants(t *testing.T) {
	if element.Block != 1 || element.Void != 2 || element.Hidden != 4 || element.Pre != 8 || element.NoBreak != 16 || element.Break != 32 || element.Chance != 64 {
		t.Error("the bits")
	}
}

func TestOf(t *testing.T) { // P21.1
	all := bitsOf()
	for name, want := range all {
		if got := element.Of(name); got != want {
			t.Errorf("Of(%q): %d, not %d", name, got, want)
		}
		for bit := -2; bit < 300; bit++ {
			if got := element.Has(name, bit); got != (want&bit != 0) {
				t.Errorf("Has(%q, %d): %v", name, bit, got)
			}
		}
	}
	if element.Of("hr") != 3 || element.Of("br") != 34 || element.Of("wbr") != 66 || element.Of("pre") != 9 || len(all) != 61 {
		t.Error("some by hand", len(all))
	}
}

func TestOthers(t *testing.T) { // P21.1: all other names
	all := bitsOf()
	var l []string
	for name := range all {
		for i := range len(name) + 1 {
			l = append(l, name[:i], name[i:], name[:i]+"x"+name[i:], name[:i]+" "+name[i:], name[:i]+"\x00"+name[i:])
		}
		for other := range all {
			l = append(l, name+" "+other, name+other, name+", "+other)
		}
		l = append(l, strings.ToUpper(name), strings.Title(name), " "+name, name+" ", name+"/", name+"\n", name+" "+name)
	}
	l = append(l, "", " ", "  ", "a", "b", "i", "span", "h0", "h7", "\xff", "é", "br wbr", strings.Repeat("p", 1<<20), strings.Repeat(" ", 1<<20))
	for i := range 1 << 16 {
		l = append(l, string([]byte{byte(i >> 8), byte(i)}))
	}
	for _, name := range l {
		if got := element.Of(name); got != all[name] {
			t.Errorf("Of(%q): %d, not %d", name, got, all[name])
		}
		if element.Has(name, -1) != (all[name] != 0) || element.Has(name, 0) {
			t.Errorf("Has(%q)", name)
		}
	}
}

func TestNames(t *testing.T) { // P21.2
	all := bitsOf()
	for bits := -1; bits < 1<<9; bits++ {
		var want []string
		for name, is := range all {
			if is&bits != 0 {
				want = append(want, name)
			}
		}
		slices.Sort(want)
		if got := element.Names(bits); !slices.Equal(got, want) {
			t.Errorf("Names(%d): %v, not %v", bits, got, want)
		}
		if got := element.Names(bits&5, bits&^5, 0, bits&1); !slices.Equal(got, want) {
			t.Errorf("Names of %d, one by one: %v, not %v", bits, got, want)
		}
	}
	for _, bits := range [][]int{nil, {0}, {0, 0}, {128}, {-128, 1 << 40}, {-1 << 63}} {
		if got := element.Names(bits...); len(got) != 0 {
			t.Errorf("Names(%v): %v", bits, got)
		}
	}
}

func TestMemory(t *testing.T) { // the bits aren't changed, and what is answered is new
	bits := []int{element.Pre, element.NoBreak, 1 << 20}
	l := element.Names(bits[:2]...)
	l[0], l[1] = "x", "y"
	if !slices.Equal(bits, []int{8, 16, 1 << 20}) || !slices.Equal(element.Names(bits[:2]...), []string{"nobr", "pre"}) {
		t.Error(bits, element.Names(bits[:2]...))
	}
}

func TestTogether(t *testing.T) { // P21.3
	for _, name := range element.Names(element.Break, element.Chance) {
		if !element.Has(name, element.Void) {
			t.Error(name)
		}
	}
	for _, name := range element.Names(element.Hidden, element.Pre, element.NoBreak) {
		if element.Has(name, element.Void) {
			t.Error(name)
		}
	}
}
