package flat_test

import (
	"bytes"
	"math"
	"slices"
	"testing"

	"virgule/extract"
	"virgule/flat"
	"virgule/scalar"
)

// raws is the raw offsets of all text positions, by the chapter's words.
func raws(b []byte) []int {
	out := []int{0}
	for i, x := range extract.All(b) {
		if i > 0 {
			out = append(out, x.At)
		}
	}
	if len(extract.All(b)) > 0 {
		out = append(out, len(b))
	}
	return out
}

// plain is the plain position of a raw offset, by the chapter's words: the least one, asked for one by one.
func plain(raws []int, at int) int {
	if at == 0 || len(raws) == 1 {
		return 0
	}
	for i := 1; ; i++ {
		if raws[i] >= at {
			return i
		}
	}
}

// hold holds all that is answered of a text against the chapter's words.
func hold(t *testing.T, s string) {
	t.Helper()
	b := []byte(s)
	f := flat.New(b)
	holdItems(t, b, f)
	offsets := raws(b)
	holdRaw(t, b, f, offsets)
	holdPlain(t, b, f, offsets)
	holdSlices(t, b, f, offsets)
}

// holdItems holds what is told of the items: P24.1.
func holdItems(t *testing.T, b []byte, f *flat.Flat) {
	t.Helper()
	want := extract.All(b)
	if f.Len() != len(want) || f.Size() != len(b) || !slices.Equal(f.Items(), want) {
		t.Fatalf("%q: %d, %d, %+v", b, f.Len(), f.Size(), f.Items())
	}
	var text []byte
	for i, x := range want {
		text = append(text, scalar.Put(x.R)...)
		if got, ok := f.Item(i); got != x || !ok {
			t.Fatalf("%q: Item(%d): %+v, %v", b, i, got, ok)
		}
	}
	if f.Text() != string(text) {
		t.Fatalf("%q: the text %q", b, f.Text())
	}
	for _, i := range outside(0, len(want)-1) {
		if got, ok := f.Item(i); got != (extract.Item{}) || ok {
			t.Fatalf("%q: Item(%d): %+v, %v", b, i, got, ok)
		}
	}
}

// holdRaw holds Raw: P24.2, P24.3.
func holdRaw(t *testing.T, b []byte, f *flat.Flat, offsets []int) {
	t.Helper()
	for i, want := range offsets {
		if got, ok := f.Raw(i); got != want || !ok {
			t.Fatalf("%q: Raw(%d): %d, %v, not %d", b, i, got, ok, want)
		}
		if i > 0 && want <= offsets[i-1] {
			t.Fatalf("%q: %v", b, offsets)
		}
		if got, ok := f.Plain(want); got != i || !ok {
			t.Fatalf("%q: Plain of Raw(%d), %d: %d, %v", b, i, want, got, ok)
		}
	}
	for _, i := range outside(0, len(offsets)-1) {
		if got, ok := f.Raw(i); got != 0 || ok {
			t.Fatalf("%q: Raw(%d): %d, %v", b, i, got, ok)
		}
	}
}

// holdPlain holds Plain: P24.2.
func holdPlain(t *testing.T, b []byte, f *flat.Flat, offsets []int) {
	t.Helper()
	for at := range len(b) + 1 {
		if got, ok := f.Plain(at); got != plain(offsets, at) || !ok {
			t.Fatalf("%q: Plain(%d): %d, %v, not %d", b, at, got, ok, plain(offsets, at))
		}
	}
	for _, at := range outside(0, len(b)) {
		if got, ok := f.Plain(at); got != 0 || ok {
			t.Fatalf("%q: Plain(%d): %d, %v", b, at, got, ok)
		}
	}
}

// holdSlices holds Slice: P24.2.
func holdSlices(t *testing.T, b []byte, f *flat.Flat, offsets []int) {
	t.Helper()
	for from, first := range offsets {
		for to, end := range offsets {
			var want []byte
			if from < to {
				want = b[first:end]
			}
			if got := f.Slice(from, to); !bytes.Equal(got, want) {
				t.Fatalf("%q: Slice(%d, %d): %q, not %q", b, from, to, got, want)
			}
		}
	}
	wrong := outside(0, len(offsets)-1)
	for _, i := range wrong {
		for _, k := range append([]int{0, len(offsets) - 1}, wrong...) {
			if x, y := f.Slice(i, k), f.Slice(k, i); len(x) != 0 || len(y) != 0 {
				t.Fatalf("%q: Slice(%d, %d): %q, the other way round %q", b, i, k, x, y)
			}
		}
	}
}

// outside is some numbers below the first one, and above the last one.
func outside(first, last int) []int {
	return []int{math.MinInt, first - 2, first - 1, last + 1, last + 2, math.MaxInt}
}

// texts is all texts of up to so many of some pieces.
func texts(most int, pieces ...string) []string {
	out := []string{""}
	for last := out; most > 0; most-- {
		var longer []string
		for _, s := range last {
			for _, p := range pieces {
				longer = append(longer, s+p)
			}
		}
		out, last = append(out, longer...), longer
	}
	return out
}
