package tests

import (
	"fmt"
	"strings"
	"testing"

	"loop.example/g00465/impl"
)

func TestBracedLimit(t *testing.T) {
	if impl.MaxBytes != 6000 {
		t.Errorf("MaxBytes is %d", impl.MaxBytes)
	}
}

func TestQuote(t *testing.T) {
	long := strings.Repeat("x", impl.MaxText)
	rows := []struct{ s, want string }{
		{"", `""`},
		{"a", `"a"`},
		{" ", `" "`},
		{"~", `"~"`},
		{"a b", `"a b"`},
		{`"`, `"\""`},
		{`\`, `"\\"`},
		{`/`, `"/"`},
		{`\"`, `"\\\""`},
		{`"\`, `"\"\\"`},
		{`""`, `"\"\""`},
		{`\\`, `"\\\\"`},
		{`\/`, `"\\/"`},
		{`\n`, `"\\n"`},
		{`'`, `"'"`},
		{`{"a":[1]}`, `"{\"a\":[1]}"`},
		{"null", `"null"`},
		{long, `"` + long + `"`},
		{strings.Repeat(`"`, impl.MaxText), `"` + strings.Repeat(`\"`, impl.MaxText) + `"`},
		{strings.Repeat(`\`, impl.MaxText), `"` + strings.Repeat(`\\`, impl.MaxText) + `"`},

		{"\n", ""},
		{"\t", ""},
		{"a\r", ""},
		{"\x1f", ""},
		{"\x7f", ""},
		{"\x00", ""},
		{"a\x00b", ""},
		{"\xff", ""},
		{"\u00e9", ""},
		{long + "x", ""},
		{strings.Repeat(`"`, impl.MaxText+1), ""},
		{strings.Repeat("x", 100000), ""},
	}
	for _, r := range rows {
		if got := impl.Quote(r.s); got != r.want {
			t.Errorf("Quote(%.40q) = %.40q, want %.40q", r.s, got, r.want)
		}
	}
}

func TestQuoteOfEachByte(t *testing.T) {
	for b := range 256 {
		c := string([]byte{byte(b)})
		want := `"a` + c + `b"`
		switch {
		case b < 32 || b > 126:
			want = ""
		case c == `"` || c == `\`:
			want = `"a\` + c + `b"`
		}
		if got := impl.Quote("a" + c + "b"); got != want {
			t.Errorf("Quote with the byte %d = %q, want %q", b, got, want)
		}
	}
}

func TestBracedWrites(t *testing.T) {
	rows := []struct {
		tree node
		want string
	}{
		{node{}, "null"},
		{flagNode(0), "false"},
		{flagNode(1), "true"},
		{intNode(0), "0"},
		{intNode(-7), "-7"},
		{intNode(120), "120"},
		{intNode(impl.MaxInt), "1000000000000"},
		{intNode(-impl.MaxInt), "-1000000000000"},
		{textNode(""), `""`},
		{textNode("null"), `"null"`},
		{textNode("1"), `"1"`},
		{textNode(`a"b\c/d`), `"a\"b\\c/d"`},
		{listNode(), "[]"},
		{node{Kind: impl.NdList, Keys: []string{}, Kids: []node{}}, "[]"},
		{listNode(node{}), "[null]"},
		{listNode(intNode(3), intNode(1), intNode(3)), "[3,1,3]"},
		{listNode(listNode(), listNode(listNode())), "[[],[[]]]"},
		{mapNode(nil), "{}"},
		{mapNode([]string{""}, node{}), `{"":null}`},
		{mapNode([]string{"a"}, intNode(1)), `{"a":1}`},
		{mapNode([]string{"a", "b"}, mapNode(nil), listNode()), `{"a":{},"b":[]}`},
		{mapNode([]string{"A", "a", "aa"}, intNode(1), intNode(2), intNode(3)), `{"A":1,"a":2,"aa":3}`},
		{mapNode([]string{`"`, `/`, `\`}, intNode(1), intNode(2), intNode(3)), `{"\"":1,"/":2,"\\":3}`},
		{mapNode([]string{"a b"}, textNode("c d")), `{"a b":"c d"}`},
		{listNode(mapNode([]string{"k", "l"}, listNode(flagNode(1), node{}), textNode("x")), flagNode(0)), `[{"k":[true,null],"l":"x"},false]`},
		{chain(impl.MaxDeep, intNode(1), false), "[[[[[[[1]]]]]]]"},
		{chain(impl.MaxDeep, mapNode(nil), false), "[[[[[[[{}]]]]]]]"},
	}
	for _, r := range rows {
		if got := impl.Braced(r.tree); got != r.want {
			t.Errorf("Braced(%s) = %q, want %q", brief(r.tree), got, r.want)
		}
	}
}

func TestBracedRefuses(t *testing.T) {
	for i, n := range badTrees() {
		for where, tree := range []node{n, listNode(n), listNode(node{}, n), mapNode([]string{"a", "b"}, node{}, n)} {
			if got := impl.Braced(tree); got != "" {
				t.Errorf("bad tree %d, place %d: Braced(%s) = %.60q, want the empty text", i, where, brief(n), got)
			}
		}
	}
	ring := make([]node, 2)
	ring[0], ring[1] = listNode(ring...), mapNode([]string{"a", "b"}, ring...)
	if got := impl.Braced(ring[1]); got != "" {
		t.Errorf("Braced of a ring = %.60q", got)
	}
}

// A great tree is written whole, also where no text of so many bytes is read.
func TestBracedIsNotCut(t *testing.T) {
	text := strings.Repeat(`\`, impl.MaxText)
	tree, parts := listNode(), []string{}
	for range impl.MaxNodes - 1 {
		tree.Kids = append(tree.Kids, textNode(text))
		parts = append(parts, `"`+text+text+`"`)
	}
	want := "[" + strings.Join(parts, ",") + "]"
	if got := impl.Braced(tree); got != want {
		t.Errorf("Braced of %d texts has %d bytes, want %d", len(parts), len(got), len(want))
	}
	wantPlace(t, want, 0)
}

// What is written is read as it was, as far as it may be read at all.
func TestWrittenIsReadAsItWas(t *testing.T) {
	for i, n := range goodTrees() {
		s := impl.Braced(n)
		if s == "" || len(s) > impl.MaxBytes {
			t.Fatalf("good tree %d is written in %d bytes", i, len(s))
		}
		wantRead(t, s, n)
	}
	for b := 32; b <= 126; b++ {
		s := "a" + string(rune(b)) + "b"
		wantRead(t, impl.Braced(textNode(s)), textNode(s))
		wantRead(t, impl.Braced(mapNode([]string{s}, textNode(s))), mapNode([]string{s}, textNode(s)))
	}
}

func TestBracedWritesIntoNothing(t *testing.T) { writesIntoNothing(t, "Braced", impl.Braced) }

func wantRead(t *testing.T, s string, want node) {
	t.Helper()
	got, place := impl.Unbraced(s)
	if place != -1 {
		t.Fatalf("Unbraced(%.200q) = %s, %d, want %s, -1", s, brief(got), place, brief(want))
	}
	wantTree(t, fmt.Sprintf("Unbraced(%.200q)", s), got, want)
	if !impl.TreeOk(got) {
		t.Fatalf("Unbraced(%.200q) = %s, which is not TreeOk", s, brief(got))
	}
}

func wantPlace(t *testing.T, s string, want int) {
	t.Helper()
	got, place := impl.Unbraced(s)
	if place != want || !impl.TreeSame(got, node{}) {
		t.Errorf("Unbraced(%.200q) = %s, %d, want zero, %d", s, brief(got), place, want)
	}
}
