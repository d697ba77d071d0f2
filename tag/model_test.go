package tag_test

import (
	"math/rand"
	"regexp"
	"strings"
	"testing"

	"virgule/tag"
)

// The chapter's terms, as patterns. What follows the name of a tag is attributes, then what is skipped, then > or the end.
const (
	blank = `[\x09\x0a\x0c\x0d\x20]`
	value = `(?:"([^"]*)(?:"|\z)|'([^']*)(?:'|\z)|([^\x09\x0a\x0c\x0d\x20>"'][^\x09\x0a\x0c\x0d\x20>]*))?`
	attr  = `[\x09\x0a\x0c\x0d\x20/]*([^\x09\x0a\x0c\x0d\x20/>][^\x09\x0a\x0c\x0d\x20/>=]*)` + blank + `*(?:=` + blank + `*` + value + `)?`
)

var (
	aTag     = regexp.MustCompile(`^<(/?)([A-Za-z][^\x09\x0a\x0c\x0d\x20/>]*)((?:` + attr + `)*)([\x09\x0a\x0c\x0d\x20/]*)(>|\z)`)
	anAttr   = regexp.MustCompile(attr)
	aComment = regexp.MustCompile(`^<!--(?s:.*?)(-->|\z)`)
	aDecl    = regexp.MustCompile(`^<[!?/](?s:.*?)(>|\z)`)
	capital  = regexp.MustCompile(`[A-Z]`)
)

// lower is s with small letters.
func lower(s string) string {
	return capital.ReplaceAllStringFunc(s, func(c string) string { return string(rune(c[0] + 0x20)) })
}

// read is the construct that s begins with.
func read(s string) (tag.Tag, bool) {
	if x := aTag.FindStringSubmatch(s); x != nil {
		skipped, last := x[len(x)-2], x[len(x)-1]
		t := tag.Tag{Kind: len(x[1]), Size: len(x[0]), Name: lower(x[2]), Attrs: attrs(x[3]), Closed: last == ">"}
		t.Single = t.Closed && strings.HasSuffix(skipped, "/")
		return t, true
	}
	kind, pattern := tag.Decl, aDecl
	if strings.HasPrefix(s, "<!--") {
		kind, pattern = tag.Comment, aComment
	}
	if x := pattern.FindStringSubmatch(s); x != nil {
		return tag.Tag{Kind: kind, Size: len(x[0]), Closed: x[1] != ""}, true
	}
	return tag.Tag{}, false
}

// attrs is the attributes that s is made of.
func attrs(s string) []tag.Attr {
	var out []tag.Attr
	for _, x := range anAttr.FindAllStringSubmatch(s, -1) {
		out = append(out, tag.Attr{Name: lower(x[1]), Value: x[2] + x[3] + x[4]})
	}
	return out
}

// hold holds what is read at each offset against the patterns.
func hold(t *testing.T, s string) {
	t.Helper()
	for at := range len(s) {
		got, gotOK := tag.Read([]byte(s), at)
		want, ok := read(s[at:])
		if gotOK != ok || !same(got, want) {
			t.Fatalf("Read(%q, %d): %+v, %v, not %+v, %v", s, at, got, gotOK, want, ok)
		}
	}
}

// each hands on all texts of up to so many of some pieces.
func each(most int, pieces []string, do func(s string)) {
	var grow func(s string, more int)
	grow = func(s string, more int) {
		do(s)
		if more == 0 {
			return
		}
		for _, p := range pieces {
			grow(s+p, more-1)
		}
	}
	grow("", most)
}

// heads is beginnings after each of which something else is expected.
func heads() []string {
	return []string{"<", "</", "<a", "</a", "<a ", "<a/", "<a b", "<a b ", "<a b=", "<a b= ", "<a b=c", `<a b="`, "<a b='", `<a b="c"`, "<a b='c' ", "<!", "<!-", "<!--", "<!--a-", "<!--a--", "<?", "</ "}
}

func TestShort(t *testing.T) { // P18.1, for all short texts
	each(4, strings.Split("<>/!-?= aB\"'\n1", ""), func(s string) { hold(t, s) })
	for _, head := range heads() {
		each(3, strings.Split("<>/!-?= aZ\"'\t\x000", ""), func(s string) { hold(t, head+s) })
		each(5, strings.Split(`>/= a"`, ""), func(s string) { hold(t, head+s) })
	}
}

func TestEachByte(t *testing.T) { // P18.1, for every byte at every place
	for c := range 256 {
		b := string([]byte{byte(c)})
		hold(t, b)
		for _, head := range heads() {
			for _, tail := range []string{"", ">", "/>", "=x>", "-->", "b", " b='\"'/>"} {
				hold(t, head+b+tail)
				hold(t, head+b+b+tail)
			}
		}
	}
}

func TestPieces(t *testing.T) { // P18.1, for constructs behind one another, and damaged ones
	pieces := []string{"<", ">", "/", "</", "/>", "=", " ", "\r\n", "\f", `"`, "'", "<!--", "-->", "--", "<!", "<?", "Pre", "B", "class", "x=1", ` a="1>2"`, " b='<c>'", "é", "\xff", "É", "\x0b", "\u0085", "\u00a0", "\x00", "-", "1"}
	each(3, pieces, func(s string) { hold(t, s) })
	rng := rand.New(rand.NewSource(1))
	for range 60000 {
		b := []byte([]string{"<", "</", "<a", ""}[rng.Intn(4)])
		for range rng.Intn(14) {
			b = append(b, pieces[rng.Intn(len(pieces))]...)
			if rng.Intn(5) == 0 {
				b[rng.Intn(len(b))] = byte(rng.Intn(256))
			}
		}
		hold(t, string(b))
	}
}
