package tests

import (
	"fmt"
	"math"
	"reflect"
	"slices"
	"strings"
	"testing"

	"loop.example/g00465/impl"
)

type node = impl.Node

func mapNode(keys []string, kids ...node) node {
	return node{Kind: impl.NdMap, Keys: keys, Kids: kids}
}

func listNode(kids ...node) node { return node{Kind: impl.NdList, Kids: kids} }

func intNode(n int) node { return node{Kind: impl.NdInt, N: n} }

func textNode(s string) node { return node{Kind: impl.NdText, S: s} }

func flagNode(n int) node { return node{Kind: impl.NdFlag, N: n} }

// chain is a leaf in so many lists or maps, that there are deep nodes within each other.
func chain(deep int, leaf node, inMaps bool) node {
	for range deep - 1 {
		if inMaps {
			leaf = mapNode([]string{"k"}, leaf)
		} else {
			leaf = listNode(leaf)
		}
	}
	return leaf
}

// manyKids is a list of so many kids that are nothing.
func manyKids(n int) node { return listNode(make([]node, n)...) }

// manyKeys is a map of so many keys, each three digits.
func manyKeys(n int) node {
	t := node{Kind: impl.NdMap}
	for i := range n {
		t.Keys = append(t.Keys, fmt.Sprintf("%03d", i))
		t.Kids = append(t.Kids, intNode(i))
	}
	return t
}

func goodTrees() []node {
	return []node{
		{},
		{Keys: []string{}, Kids: []node{}},
		flagNode(0),
		flagNode(1),
		intNode(0),
		intNode(1),
		intNode(-1),
		intNode(2),
		intNode(impl.MaxInt),
		intNode(-impl.MaxInt),
		textNode(""),
		textNode("x"),
		textNode(" ~"),
		textNode(strings.Repeat("x", impl.MaxText)),
		listNode(),
		{Kind: impl.NdList, Keys: []string{}, Kids: []node{}},
		listNode(node{}),
		listNode(intNode(2), intNode(1), intNode(2)),
		listNode(listNode(), mapNode(nil), textNode("a")),
		mapNode(nil),
		mapNode([]string{}),
		mapNode([]string{""}, node{}),
		mapNode([]string{"", " "}, intNode(1), intNode(2)),
		mapNode([]string{"a"}, mapNode([]string{"a"}, mapNode([]string{"a"}, textNode("a")))),
		mapNode([]string{"a", "aa", "b"}, flagNode(1), listNode(intNode(1)), node{}),
		mapNode([]string{"A", "a"}, node{}, node{}),
		mapNode([]string{"Z", "a"}, node{}, node{}),
		mapNode([]string{"10", "9"}, node{}, node{}),
		mapNode([]string{" ", "!", "~"}, node{}, node{}, node{}),
		mapNode([]string{"a", "b"}, node{}, node{}),
		mapNode([]string{strings.Repeat("k", impl.MaxText)}, node{}),
		mapNode([]string{strings.Repeat("k", impl.MaxText-1), strings.Repeat("k", impl.MaxText)}, node{}, node{}),
		chain(2, node{}, false),
		chain(impl.MaxDeep, node{}, false),
		chain(impl.MaxDeep, node{}, true),
		chain(impl.MaxDeep, listNode(), false),
		chain(impl.MaxDeep, mapNode(nil), true),
		chain(impl.MaxDeep, intNode(5), true),
		chain(impl.MaxDeep-1, listNode(node{}, textNode("x"), mapNode(nil)), true),
		listNode(node{}, chain(impl.MaxDeep-1, node{}, true)),
		manyKids(impl.MaxNodes - 1),
		manyKeys(impl.MaxNodes - 1),
		listNode(manyKids(99), manyKids(98)),
		mapNode([]string{"a", "b"}, manyKeys(98), manyKids(99)),
		chain(impl.MaxDeep-1, manyKids(impl.MaxNodes-impl.MaxDeep+1), false),
	}
}

// Nodes of which none is a tree, wherever it stands.
func badTrees() []node {
	one := []node{{}}
	return []node{
		{Kind: -1},
		{Kind: impl.NdMap + 1},
		{Kind: math.MaxInt},
		{Kind: math.MinInt},
		{Kind: 256},
		{Kind: 1 << 32},

		{N: 1},
		{N: -1},
		{S: "x"},
		{S: " "},
		{Keys: []string{""}},
		{Kids: one},
		{Keys: []string{"a"}, Kids: one},

		flagNode(2),
		flagNode(-1),
		flagNode(math.MaxInt),
		flagNode(math.MinInt),
		{Kind: impl.NdFlag, N: 1, S: "x"},
		{Kind: impl.NdFlag, S: "true"},
		{Kind: impl.NdFlag, Keys: []string{""}},
		{Kind: impl.NdFlag, Kids: one},

		intNode(impl.MaxInt + 1),
		intNode(-impl.MaxInt - 1),
		intNode(math.MaxInt),
		intNode(math.MinInt),
		{Kind: impl.NdInt, S: "0"},
		{Kind: impl.NdInt, N: 5, Keys: []string{""}},
		{Kind: impl.NdInt, N: 5, Kids: one},

		textNode("\x1f"),
		textNode("\x7f"),
		textNode("\x00"),
		textNode("\n"),
		textNode("a\nb"),
		textNode("\x80"),
		textNode("\xff"),
		textNode("\u00e9"),
		textNode(strings.Repeat("x", impl.MaxText+1)),
		textNode(strings.Repeat("x", 100000)),
		{Kind: impl.NdText, N: 1},
		{Kind: impl.NdText, S: "x", N: -1},
		{Kind: impl.NdText, S: "x", Keys: []string{""}},
		{Kind: impl.NdText, S: "x", Kids: one},

		{Kind: impl.NdList, N: 1},
		{Kind: impl.NdList, S: "x"},
		{Kind: impl.NdList, Keys: []string{""}},
		{Kind: impl.NdList, Keys: []string{"a"}, Kids: one},
		{Kind: impl.NdList, N: 1, Kids: one},

		{Kind: impl.NdMap, N: 1},
		{Kind: impl.NdMap, S: "x"},
		{Kind: impl.NdMap, N: 1, Keys: []string{"a"}, Kids: one},
		{Kind: impl.NdMap, S: "x", Keys: []string{"a"}, Kids: one},
		mapNode([]string{"a"}),
		mapNode([]string{""}),
		mapNode(nil, node{}),
		mapNode([]string{"a", "b"}, node{}),
		mapNode([]string{"a"}, node{}, node{}),
		mapNode([]string{"b", "a"}, node{}, node{}),
		mapNode([]string{"a", "A"}, node{}, node{}),
		mapNode([]string{"9", "10"}, node{}, node{}),
		mapNode([]string{"aa", "a"}, node{}, node{}),
		mapNode([]string{"a", ""}, node{}, node{}),
		mapNode([]string{"a", "a"}, node{}, node{}),
		mapNode([]string{"", ""}, node{}, node{}),
		mapNode([]string{"a", "b", "b"}, node{}, node{}, node{}),
		mapNode([]string{"a", "c", "b"}, node{}, node{}, node{}),
		mapNode([]string{"b", "a", "c"}, node{}, node{}, node{}),
		mapNode([]string{"\n"}, node{}),
		mapNode([]string{"a", "b\x7f"}, node{}, node{}),
		mapNode([]string{"\x1f", "a"}, node{}, node{}),
		mapNode([]string{"a", "\xff"}, node{}, node{}),
		mapNode([]string{strings.Repeat("k", impl.MaxText+1)}, node{}),

		chain(impl.MaxDeep+1, node{}, false),
		chain(impl.MaxDeep+1, node{}, true),
		chain(impl.MaxDeep+1, intNode(5), true),
		chain(impl.MaxDeep+1, listNode(), false),
		chain(impl.MaxDeep+1, mapNode(nil), true),
		chain(1000, node{}, false),
		chain(100000, node{}, true),
		listNode(node{}, chain(impl.MaxDeep, node{}, false)),
		mapNode([]string{"a", "b"}, chain(impl.MaxDeep, node{}, true), node{}),

		manyKids(impl.MaxNodes),
		manyKeys(impl.MaxNodes),
		manyKids(100000),
		listNode(manyKids(99), manyKids(99)),
		listNode(manyKids(100), manyKids(98)),
		mapNode([]string{"a", "b"}, manyKeys(99), manyKids(99)),
		chain(impl.MaxDeep-1, manyKids(impl.MaxNodes-impl.MaxDeep+2), false),
	}
}

func TestTreeNames(t *testing.T) {
	kinds := []int{impl.NdNull, impl.NdFlag, impl.NdInt, impl.NdText, impl.NdList, impl.NdMap}
	if !slices.Equal(kinds, []int{0, 1, 2, 3, 4, 5}) {
		t.Errorf("kinds are %v", kinds)
	}
	if impl.MaxDeep != 8 || impl.MaxNodes != 200 || impl.MaxText != 400 {
		t.Errorf("limits are %d, %d, %d", impl.MaxDeep, impl.MaxNodes, impl.MaxText)
	}
}

func TestTreeOk(t *testing.T) {
	for i, n := range goodTrees() {
		if !impl.TreeOk(n) {
			t.Errorf("good tree %d is refused: %s", i, brief(n))
		}
	}
}

func TestTreeOkRefuses(t *testing.T) {
	for i, n := range badTrees() {
		for where, tree := range []node{
			n,
			listNode(n),
			listNode(node{}, n),
			listNode(n, node{}),
			mapNode([]string{"a"}, n),
			mapNode([]string{"a", "b", "c"}, node{}, n, node{}),
			mapNode([]string{"a", "b", "c"}, node{}, node{}, listNode(node{}, listNode(n))),
		} {
			if impl.TreeOk(tree) {
				t.Errorf("bad tree %d, place %d, is accepted: %s", i, where, brief(n))
			}
		}
	}
}

// A list may stand within itself; there is no end to how deep that is.
func TestTreeOkEndsWithinItself(t *testing.T) {
	ring := make([]node, 2)
	ring[0], ring[1] = listNode(ring...), mapNode([]string{"a", "b"}, ring...)
	if impl.TreeOk(listNode(ring...)) || impl.TreeOk(ring[1]) {
		t.Error("a ring is accepted")
	}
	wide := make([]node, 1000)
	for range impl.MaxDeep - 2 {
		kids := make([]node, 1000)
		for i := range kids {
			kids[i] = listNode(wide...)
		}
		wide = kids
	}
	if impl.TreeOk(listNode(wide...)) {
		t.Error("a tree of a thousand times a thousand nodes and more is accepted")
	}
}

func TestTextOk(t *testing.T) {
	for b := range 256 {
		c, want := string([]byte{byte(b)}), b >= 32 && b <= 126
		for _, s := range []string{c, c + "a", "a" + c, "a" + c + "a", strings.Repeat(c, impl.MaxText), strings.Repeat("a", impl.MaxText-1) + c} {
			if got := impl.TextOk(s); got != want {
				t.Errorf("TextOk(%.20q) = %v, want %v", s, got, want)
			}
			if tree := impl.TreeOk(textNode(s)); tree != want {
				t.Errorf("TreeOk of the text %.20q = %v, want %v", s, tree, want)
			}
			if tree := impl.TreeOk(mapNode([]string{s}, node{})); tree != want {
				t.Errorf("TreeOk of the key %.20q = %v, want %v", s, tree, want)
			}
		}
	}
	for n, want := range map[int]bool{0: true, 1: true, impl.MaxText - 1: true, impl.MaxText: true, impl.MaxText + 1: false, 2 * impl.MaxText: false, 1 << 20: false} {
		if got := impl.TextOk(strings.Repeat("~", n)); got != want {
			t.Errorf("TextOk of %d bytes = %v, want %v", n, got, want)
		}
	}
	for _, s := range []string{"\u00e9", "a\u00e9", "\u2028", "\U0001f600", "a\x00", "tab\t", "line\n", "\r"} {
		if impl.TextOk(s) {
			t.Errorf("TextOk(%q) is true", s)
		}
	}
}

func TestTreeSame(t *testing.T) {
	same := [][2]node{
		{{}, {Keys: []string{}, Kids: []node{}}},
		{mapNode(nil), mapNode([]string{}, []node{}...)},
		{listNode(), {Kind: impl.NdList, Keys: []string{}, Kids: []node{}}},
		{listNode(node{}), listNode(node{Kids: []node{}})},
		{mapNode([]string{"a"}, node{}), mapNode(append(make([]string, 0, 9), "a"), append(make([]node, 0, 9), node{})...)},
	}
	for _, n := range append(goodTrees(), badTrees()...) {
		same = append(same, [2]node{n, snapshot(n)}, [2]node{n, n})
	}
	for i, p := range same {
		if !impl.TreeSame(p[0], p[1]) || !impl.TreeSame(p[1], p[0]) {
			t.Errorf("pair %d is not the same: %s", i, brief(p[:]...))
		}
	}
}

// differing are trees of which no two are the same, each in only one thing from another.
func differing() []node {
	return []node{
		{}, {N: 1}, {S: "a"}, {Keys: []string{"a"}}, {Kids: []node{{}}},
		{Kind: -1}, {Kind: 6}, {Kind: 7},
		flagNode(0), flagNode(1), flagNode(2),
		intNode(0), intNode(1), intNode(-1), intNode(impl.MaxInt), intNode(impl.MaxInt + 1), intNode(math.MinInt), intNode(math.MaxInt),
		{Kind: impl.NdInt, N: 1, S: "a"},
		textNode(""), textNode("a"), textNode("b"), textNode("aa"), textNode("A"), textNode("a\x00"), textNode("\x00"),
		listNode(), listNode(node{}), listNode(node{}, node{}), listNode(intNode(1)), listNode(intNode(1), intNode(2)), listNode(intNode(2), intNode(1)),
		listNode(listNode()), listNode(listNode(listNode())), listNode(mapNode(nil)), listNode(textNode("1")), listNode(node{}, listNode(intNode(1))), listNode(node{}, listNode(intNode(2))),
		{Kind: impl.NdList, Keys: []string{"a"}, Kids: []node{{}}},
		mapNode(nil), mapNode([]string{"a"}), mapNode([]string{""}), mapNode(nil, node{}), mapNode([]string{"a"}, node{}), mapNode([]string{"b"}, node{}), mapNode([]string{""}, node{}),
		mapNode([]string{"a"}, intNode(1)), mapNode([]string{"a"}, intNode(2)), mapNode([]string{"a"}, mapNode(nil)), mapNode([]string{"a"}, listNode()),
		mapNode([]string{"a", "b"}, node{}, node{}), mapNode([]string{"b", "a"}, node{}, node{}), mapNode([]string{"a", "c"}, node{}, node{}), mapNode([]string{"a", "b"}, node{}, intNode(1)), mapNode([]string{"a", "b"}, intNode(1), node{}),
		mapNode([]string{"a", "b"}, node{}), mapNode([]string{"a"}, node{}, node{}), mapNode([]string{"ab"}, node{}),
		mapNode([]string{"a"}, mapNode([]string{"x"}, intNode(1))), mapNode([]string{"a"}, mapNode([]string{"x"}, intNode(2))), mapNode([]string{"a"}, mapNode([]string{"y"}, intNode(1))),
		{Kind: impl.NdMap, N: 1}, {Kind: impl.NdMap, S: "a"},
	}
}

func TestTreeSameTellsApart(t *testing.T) {
	list := differing()
	for i, a := range list {
		for j, b := range list {
			for deep := 1; deep <= 3; deep++ {
				for _, inMaps := range []bool{false, true} {
					if got := impl.TreeSame(chain(deep, a, inMaps), chain(deep, b, inMaps)); got != (i == j) {
						t.Errorf("TreeSame(%v, %v) = %v, %d deep", a, b, got, deep)
					}
				}
			}
		}
	}
}

func TestMakers(t *testing.T) {
	rows := []struct {
		got, want node
		ok        bool
	}{
		{impl.FlagOf(false), flagNode(0), true},
		{impl.FlagOf(true), flagNode(1), true},
		{impl.IntOf(0), intNode(0), true},
		{impl.IntOf(7), intNode(7), true},
		{impl.IntOf(-7), intNode(-7), true},
		{impl.IntOf(impl.MaxInt), intNode(impl.MaxInt), true},
		{impl.IntOf(-impl.MaxInt), intNode(-impl.MaxInt), true},
		{impl.IntOf(impl.MaxInt + 1), intNode(impl.MaxInt + 1), false},
		{impl.IntOf(-impl.MaxInt - 1), intNode(-impl.MaxInt - 1), false},
		{impl.IntOf(math.MinInt), intNode(math.MinInt), false},
		{impl.TextOf(""), textNode(""), true},
		{impl.TextOf("x y"), textNode("x y"), true},
		{impl.TextOf("\n"), textNode("\n"), false},
		{impl.TextOf(strings.Repeat("x", impl.MaxText)), textNode(strings.Repeat("x", impl.MaxText)), true},
		{impl.TextOf(strings.Repeat("x", impl.MaxText+1)), textNode(strings.Repeat("x", impl.MaxText+1)), false},
		{impl.ListOf(nil), listNode(), true},
		{impl.ListOf([]node{}), listNode(), true},
		{impl.ListOf([]node{{}}), listNode(node{}), true},
		{impl.ListOf([]node{intNode(2), intNode(1)}), listNode(intNode(2), intNode(1)), true},
		{impl.ListOf([]node{{Kind: 9, N: 3, Keys: []string{"z"}}}), listNode(node{Kind: 9, N: 3, Keys: []string{"z"}}), false},
		{impl.ListOf(make([]node, impl.MaxNodes-1)), manyKids(impl.MaxNodes - 1), true},
		{impl.ListOf(make([]node, impl.MaxNodes)), manyKids(impl.MaxNodes), false},
	}
	for i, r := range rows {
		if !reflect.DeepEqual(tidy(r.got), tidy(r.want)) {
			t.Errorf("row %d: %s, want %s", i, brief(r.got), brief(r.want))
		}
		if got := impl.TreeOk(r.got); got != r.ok {
			t.Errorf("row %d: TreeOk(%s) = %v, want %v", i, brief(r.got), got, r.ok)
		}
	}
}
