package tests

import (
	"fmt"
	"math/rand"
	"slices"
	"strings"
	"testing"

	"loop.example/g00465/impl"
)

// Of maps that are none of TreeOk, too, the first of alike Keys counts, and what is merged has each Key once, in order.
func TestMergeOfStrangeTrees(t *testing.T) {
	list := append(strangeTrees(), differing()...)
	r := rand.New(rand.NewSource(113))
	anyOf := func() node { return list[r.Intn(len(list))] }
	for range 4000 {
		base, a, b := anyOf(), anyOf(), anyOf()
		wantMerged(t, base, a, b)
		wantMerged(t, mapNode([]string{"k", "k"}, base, a), mapNode([]string{"k", "j"}, a, b), mapNode([]string{"k", "k"}, b, base))
		wantMerged(t, mapNode([]string{"k", "j", "k"}, base, a, b), mapNode([]string{"j"}, b), mapNode([]string{"k"}, a))
		merged, ways := impl.Merge(base, a, b)
		again, waysAgain := impl.Merge(base, a, b)
		wantTree(t, "once more", again, merged)
		if !slices.Equal(ways, waysAgain) {
			t.Fatalf("of %s, %s and %s: not the same twice", brief(base), brief(a), brief(b))
		}
	}
}

func TestMergeOfMapsOutOfOrder(t *testing.T) {
	one, two, three := intNode(1), intNode(2), intNode(3)
	ba, ab := mapNode([]string{"b", "a"}, one, two), mapNode([]string{"a", "b"}, two, one)
	odd := func(n int, s string, kids ...node) node {
		return node{Kind: impl.NdMap, N: n, S: s, Keys: []string{"a", "b"}[:len(kids)], Kids: kids}
	}
	rows := []struct {
		what             string
		base, a, b, want node
		ways             []string
	}{
		{"as it stands, where nothing was changed by the other", ba, mapNode([]string{"c", "a"}, one, two), ba, mapNode([]string{"c", "a"}, one, two), nil},
		{"as it stands, where both are the same", ab, ba, ba, ba, nil},
		{"in order, where it is made anew", ba, ab, mapNode([]string{"b", "a"}, one, three), mapNode([]string{"a", "b"}, three, one), nil},
		{"other places are no change of a Kid", ab, mapNode([]string{"c", "b", "a"}, three, one, two), ba, mapNode([]string{"a", "b", "c"}, two, one, three), nil},
		{"but of the map as a Kid", mapNode([]string{"k"}, ab), mapNode([]string{"k"}, ba), mapNode(nil), mapNode([]string{"k"}, ba), []string{"k"}},
		{"ways in order", ba, mapNode([]string{"b", "a"}, two, one), mapNode([]string{"b", "a"}, three, three), mapNode([]string{"a", "b"}, one, two), []string{"a", "b"}},
		{"the first of two in the base", mapNode([]string{"x", "x"}, one, two), mapNode([]string{"x"}, two), mapNode([]string{"x"}, three), mapNode([]string{"x"}, two), []string{"x"}},
		{"the first of two in the base is as it was", mapNode([]string{"x", "x"}, one, two), mapNode([]string{"x"}, one), mapNode([]string{"x"}, three), mapNode([]string{"x"}, three), nil},
		{"the first of two in the first", mapNode([]string{"x"}, one), mapNode([]string{"x", "x"}, one, two), mapNode([]string{"x"}, three), mapNode([]string{"x"}, three), nil},
		{"the first of two in the second", mapNode([]string{"x"}, one), mapNode([]string{"x"}, two), mapNode([]string{"x", "x"}, one, three), mapNode([]string{"x"}, two), nil},
		{"both of two are taken away", mapNode([]string{"x", "x"}, one, two), mapNode(nil), mapNode([]string{"x", "y"}, one, two), mapNode([]string{"y"}, two), nil},
		{"what else a map has is gone from what is made anew", odd(4, "s"), odd(5, "s", one), odd(4, "t", two), odd(0, "", one), []string{"a"}},
		{"and stays in what is as it was", odd(4, "s"), odd(5, "t", one), odd(4, "s"), odd(5, "t", one), nil},
		{"a Key too many is no map", mapNode([]string{"a"}), mapNode([]string{"a"}, one), mapNode([]string{"b"}, one), mapNode([]string{"a"}, one), []string{"."}},
		{"a Kid too many is no map", mapNode(nil), mapNode(nil, one), mapNode([]string{"b"}, one), mapNode(nil, one), []string{"."}},
		{"a Key too many in the second", mapNode(nil), mapNode([]string{"b"}, one), mapNode([]string{"b"}), mapNode([]string{"b"}, one), []string{"."}},
		{"no map within", mapNode([]string{"k"}, mapNode(nil)), mapNode([]string{"k"}, mapNode([]string{"a"})), mapNode([]string{"k"}, ab), mapNode([]string{"k"}, mapNode([]string{"a"})), []string{"k"}},
		{"no map that is as it was", mapNode([]string{"a"}), mapNode([]string{"a"}), one, one, nil},
		{"no kind is something", mapNode([]string{"k"}, node{Kind: -1}), mapNode(nil), mapNode([]string{"k"}, node{}), mapNode(nil), []string{"k"}},
		{"nothing that has more is not the same", mapNode([]string{"k"}, node{}), mapNode(nil), mapNode([]string{"k"}, node{N: 1}), mapNode(nil), []string{"k"}},
		{"an empty list is none", node{Kind: impl.NdMap, Keys: []string{}, Kids: []node{}}, mapNode(nil), mapNode([]string{"k"}, one), mapNode([]string{"k"}, one), nil},
	}
	for _, r := range rows {
		got, ways := impl.Merge(r.base, r.a, r.b)
		wantTree(t, r.what, got, r.want)
		if !slices.Equal(ways, r.ways) {
			t.Errorf("%s: the ways %q, want %q", r.what, ways, r.ways)
		}
		wantMerged(t, r.base, r.a, r.b)
	}
}

// Deeper than any tree that is TreeOk there is an answer still.
func TestMergeOfDeepTrees(t *testing.T) {
	const deep = 1000
	tree := func(n int, inMaps bool) node { return chain(deep, intNode(n), inMaps) }
	got, ways := impl.Merge(tree(1, true), tree(2, true), tree(3, true))
	wantTree(t, "maps within maps", got, tree(2, true))
	if want := strings.Repeat("k/", deep-2) + "k"; len(ways) != 1 || ways[0] != want {
		t.Errorf("the ways %.100q", ways)
	}
	got, ways = impl.Merge(tree(1, false), tree(2, false), tree(3, false))
	wantTree(t, "lists within lists", got, tree(2, false))
	if len(ways) != 1 || ways[0] != "." {
		t.Errorf("the ways %.100q", ways)
	}
	for _, inMaps := range []bool{false, true} {
		wantWhole(t, tree(1, inMaps), tree(2, inMaps), tree(1, inMaps), tree(2, inMaps))
		wantWhole(t, tree(1, inMaps), tree(1, inMaps), tree(2, inMaps), tree(2, inMaps))
		wantWhole(t, tree(1, inMaps), tree(2, inMaps), tree(2, inMaps), tree(2, inMaps))
	}
}

// mergeOwns asks for new memory, and for arguments that are as they were.
func mergeOwns(t *testing.T, what string, base, a, b node) {
	t.Helper()
	args := []node{base, a, b}
	var was []node
	for _, arg := range args {
		was = append(was, wholeRoom(arg))
	}
	asTheyWere := func(when string) {
		t.Helper()
		for i, arg := range args {
			wantTree(t, fmt.Sprintf("%s: argument %d, %s", what, i, when), wholeRoom(arg), was[i])
		}
	}
	answer, ways := impl.Merge(base, a, b)
	impl.Agreed(base, a, b)
	asTheyWere("asked")
	ownMemory(t, what, answer, args...)
	first, firstWays := snapshot(answer), slices.Clone(ways)
	again, waysAgain := impl.Merge(base, a, b)
	ownMemory(t, what+", once more", again, answer)
	scribble(again)
	for i := range waysAgain[:cap(waysAgain)] {
		waysAgain[:cap(waysAgain)][i] = "scribbled"
	}
	asTheyWere("the answer written into")
	if !slices.Equal(ways, firstWays) {
		t.Fatalf("%s: the ways of two answers share memory", what)
	}
	wantTree(t, what+": another answer, the one written into", answer, first)
}

func TestMergeSharesNothing(t *testing.T) {
	r := rand.New(rand.NewSource(114))
	for i := range 500 {
		base, a, b := anyThree(r, true)
		what := fmt.Sprintf("three %d", i)
		mergeOwns(t, what, roomy(base), roomy(a), roomy(b))
		first, second := roomy(a), roomy(base)
		mergeOwns(t, what+", one thrice", first, first, first)
		mergeOwns(t, what+", one and base", second, first, second)
		mergeOwns(t, what+", base and other", second, second, first)
		mergeOwns(t, what+", both one", second, first, first)
		if len(first.Kids) > 0 {
			mergeOwns(t, what+", one within the other", second, first, first.Kids[0])
			mergeOwns(t, what+", the other within the one", first, first.Kids[0], second)
		}
	}
	list := strangeTrees()
	for range 800 {
		mergeOwns(t, "strange trees", roomy(list[r.Intn(len(list))]), roomy(list[r.Intn(len(list))]), roomy(list[r.Intn(len(list))]))
	}
}

// A Kid that stands at more than one Key, or in more than one of the three, is copied for each.
func TestMergeOfKidsThatShareMemory(t *testing.T) {
	inner := mapNode([]string{"x", "y"}, listNode(intNode(1)), mapNode([]string{"z"}, intNode(2)))
	base := mapNode([]string{"a", "b"}, inner, mapNode([]string{"x"}, inner))
	a := mapNode([]string{"a", "b", "c"}, mapNode([]string{"x", "y"}, inner, inner), inner, inner)
	b := mapNode([]string{"a", "b", "d", "e"}, mapNode([]string{"x", "y", "z"}, inner.Kids[0], inner, inner), inner, inner, inner)
	list := []node{base, a, b, inner, mapNode(nil), mapNode([]string{"a"}, base), mapNode([]string{"a"}, a), mapNode([]string{"a"}, b)}
	for _, x := range list {
		for _, y := range list {
			for _, z := range list {
				mergeOwns(t, "Kids that share memory", x, y, z)
			}
		}
	}
}
