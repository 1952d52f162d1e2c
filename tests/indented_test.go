package tests

import (
	"fmt"
	"strings"
	"testing"

	"loop.example/g00465/impl"
)

// text is lines, each with the byte 10 behind it.
func text(lines ...string) string {
	return strings.Join(append(lines, ""), "\n")
}

func TestIndentedWrites(t *testing.T) {
	long := strings.Repeat("k", 60)
	one, two := intNode(1), intNode(2)
	rows := []struct {
		tree node
		want string
	}{
		{node{}, text("null")},
		{flagNode(0), text("false")},
		{flagNode(1), text("true")},
		{intNode(-7), text("-7")},
		{textNode("web"), text("web")},
		{textNode("null"), text(`"null"`)},
		{textNode(""), text(`""`)},
		{textNode("- a"), text(`"- a"`)},
		{listNode(), text("[]")},
		{mapNode(nil), text("{}")},
		{node{Kind: impl.NdMap, Keys: []string{}, Kids: []node{}}, text("{}")},
		{listNode(node{}), text("- null")},
		{listNode(two, one, two), text("- 2", "- 1", "- 2")},
		{listNode(listNode(), mapNode(nil)), text("- []", "- {}")},
		{listNode(listNode(one)), text("-", "  - 1")},
		{listNode(listNode(listNode(one), two), one), text("-", "  -", "    - 1", "  - 2", "- 1")},
		{listNode(mapNode([]string{"a", "b"}, one, two), mapNode([]string{"a"}, one)), text("-", "  a: 1", "  b: 2", "-", "  a: 1")},
		{mapNode([]string{"a"}, one), text("a: 1")},
		{mapNode([]string{"A", "a", "aa"}, node{}, flagNode(1), textNode("x")), text("A: null", "a: true", "aa: x")},
		{mapNode([]string{"a", "b"}, listNode(one, two), listNode()), text("a:", "  - 1", "  - 2", "b: []")},
		{mapNode([]string{"a", "b", "c"}, mapNode([]string{"b"}, mapNode([]string{"c"}, one)), mapNode(nil), textNode("c d")), text("a:", "  b:", "    c: 1", "b: {}", `c: "c d"`)},
		{mapNode([]string{"", " ", "1", "a b"}, one, one, one, one), text(`"": 1`, `" ": 1`, `"1": 1`, `"a b": 1`)},
		{mapNode([]string{`"`, "#", "-", "/", ":", `\`}, one, one, one, one, one, listNode(one)), text(`"\"": 1`, `"#": 1`, `"-": 1`, `"/": 1`, `":": 1`, `"\\":`, "  - 1")},
		{mapNode([]string{"false", "null", "true"}, textNode("false"), textNode("null"), textNode("true")), text(`"false": "false"`, `"null": "null"`, `"true": "true"`)},
		{mapNode([]string{"falsey", "null.", "truest"}, textNode("falsey"), textNode("null."), textNode("truest")), text("falsey: falsey", "null.: null.", "truest: truest")},
		{mapNode([]string{long, long + "k"}, textNode(long), textNode(long+"k")), text(long+": "+long, `"`+long+`k": "`+long+`k"`)},
		{mapNode([]string{"a.b/c-1_Z"}, textNode("quay/pace")), text("a.b/c-1_Z: quay/pace")},
		{chain(4, mapNode([]string{"x"}, listNode()), false), text("-", "  -", "    -", "      x: []")},
		{chain(impl.MaxDeep, one, true), text("k:", "  k:", "    k:", "      k:", "        k:", "          k:", "            k: 1")},
	}
	for _, r := range rows {
		if got := impl.Indented(r.tree); got != r.want {
			t.Errorf("Indented(%s) = %q, want %q", brief(r.tree), got, r.want)
		}
		wantOutline(t, r.want, r.tree)
	}
}

func TestIndentedRefuses(t *testing.T) {
	for i, n := range badTrees() {
		for where, tree := range []node{n, listNode(n), listNode(node{}, n), mapNode([]string{"a", "b"}, node{}, n), mapNode([]string{"a"}, listNode(n))} {
			if got := impl.Indented(tree); got != "" {
				t.Errorf("bad tree %d, place %d: Indented(%s) = %.60q, want the empty text", i, where, brief(n), got)
			}
		}
	}
	ring := make([]node, 2)
	ring[0], ring[1] = listNode(ring...), mapNode([]string{"a", "b"}, ring...)
	if got := impl.Indented(ring[1]); got != "" {
		t.Errorf("Indented of a ring = %.60q", got)
	}
}

// A great tree is written whole, also where no text of so many bytes is read.
func TestIndentedIsNotCut(t *testing.T) {
	tree, lines := listNode(), []string{}
	for range impl.MaxNodes - 1 {
		tree.Kids = append(tree.Kids, textNode(strings.Repeat(`"`, impl.MaxText)))
		lines = append(lines, `- "`+strings.Repeat(`\"`, impl.MaxText)+`"`)
	}
	want := text(lines...)
	if got := impl.Indented(tree); got != want {
		t.Errorf("Indented of %d texts has %d bytes, want %d", len(lines), len(got), len(want))
	}
	wantLine(t, want, 0)
}

func TestIndentedIsReadAsItWas(t *testing.T) {
	for i, n := range goodTrees() {
		s := impl.Indented(n)
		if s == "" || len(s) > impl.MaxBytes {
			t.Fatalf("good tree %d is written in %d bytes", i, len(s))
		}
		wantOutline(t, s, n)
		wantOutline(t, strings.TrimSuffix(s, "\n"), n)
		wantOutline(t, impl.Braced(n), n)
		wantOutline(t, impl.Braced(n)+"\n", n)
	}
	for b := 32; b <= 126; b++ {
		c := string(rune(b))
		for _, s := range []string{c, c + "b", "a" + c, "a" + c + "b", c + c, c + " b", "a" + c + " b", `a"` + c + " 1"} {
			for _, n := range []node{textNode(s), listNode(textNode(s)), mapNode([]string{s}, textNode(s)), listNode(mapNode([]string{s}, listNode(textNode(s)))), mapNode([]string{s}, mapNode([]string{s}, listNode()))} {
				wantOutline(t, impl.Indented(n), n)
				wantOutline(t, impl.Braced(n), n)
			}
		}
	}
}

func TestIndentedWritesIntoNothing(t *testing.T) { writesIntoNothing(t, "Indented", impl.Indented) }

func wantOutline(t *testing.T, s string, want node) {
	t.Helper()
	got, line := impl.Outline(s)
	if line != -1 {
		t.Fatalf("Outline(%.300q) = %s, %d, want %s, -1", s, brief(got), line, brief(want))
	}
	wantTree(t, fmt.Sprintf("Outline(%.300q)", s), got, want)
	if !impl.TreeOk(got) {
		t.Fatalf("Outline(%.300q) = %s, which is not TreeOk", s, brief(got))
	}
}

func wantLine(t *testing.T, s string, want int) {
	t.Helper()
	got, line := impl.Outline(s)
	if line != want || !impl.TreeSame(got, node{}) {
		t.Errorf("Outline(%.300q) = %s, %d, want zero, %d", s, brief(got), line, want)
	}
}
