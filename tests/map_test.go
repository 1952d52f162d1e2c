package tests

import (
	"fmt"
	"maps"
	"slices"
	"strings"
	"testing"

	"loop.example/g00465/impl"
)

// mapOf is the map that has these, Keys ascending.
func mapOf(model map[string]node) node {
	t := node{Kind: impl.NdMap}
	for _, key := range slices.Sorted(maps.Keys(model)) {
		t.Keys = append(t.Keys, key)
		t.Kids = append(t.Kids, model[key])
	}
	return t
}

func wantGot(t *testing.T, tree node, key string, want node) {
	t.Helper()
	got, ok := impl.Get(tree, key)
	if !ok {
		t.Fatalf("Get(%s, %.20q) is false", brief(tree), key)
	}
	wantTree(t, fmt.Sprintf("Get at %.20q", key), got, want)
}

func wantNone(t *testing.T, tree node, key string) {
	t.Helper()
	if got, ok := impl.Get(tree, key); ok || !impl.TreeSame(got, node{}) {
		t.Fatalf("Get(%s, %.20q) = %s, %v, want zero and false", brief(tree), key, brief(got), ok)
	}
}

func testKeys() []string {
	return []string{
		"", " ", "!", "~", "0", "00", "1", "10", "2", "9", "A", "B", "Z", "a", "aa", "ab", "b", "z", "zz", "a b", "a/b", "quay/pace",
		"\x00", "\x1f", "\x7f", "\x80", "\xff", "\u00e9", "a\x00", "a\xff",
		strings.Repeat("k", impl.MaxText), strings.Repeat("k", impl.MaxText+1),
	}
}

// What is set and unset by turns is held, each time, against a map of the test's own.
func TestMapIsWhatWasSet(t *testing.T) {
	keys, values := testKeys(), append(goodTrees()[:20], badTrees()[:40]...)
	tree, model := node{Kind: impl.NdMap}, map[string]node{}
	turn := uint32(1)
	for step := range 3000 {
		turn = turn*1664525 + 1013904223
		key := keys[int(turn>>16)%len(keys)]
		if step%5 < 3 {
			x := values[int(turn>>8&0xffff)%len(values)]
			tree, model[key] = impl.Set(tree, key, x), x
		} else {
			tree = impl.Unset(tree, key)
			delete(model, key)
		}
		wantTree(t, fmt.Sprintf("step %d at %.20q", step, key), tree, mapOf(model))
		for _, k := range keys {
			if want, in := model[k]; in {
				wantGot(t, tree, k, want)
			} else {
				wantNone(t, tree, k)
			}
		}
	}
}

func TestSetKeepsTreesOk(t *testing.T) {
	tree := node{Kind: impl.NdMap}
	for i, key := range testKeys() {
		if !impl.TextOk(key) {
			continue
		}
		tree = impl.Set(impl.Set(tree, key, intNode(i)), key, textNode(key))
		if !impl.TreeOk(tree) {
			t.Fatalf("with %q the map is not TreeOk: %s", key, brief(tree))
		}
	}
	for _, key := range testKeys() {
		tree = impl.Unset(tree, key)
		if !impl.TreeOk(tree) {
			t.Fatalf("without %q the map is not TreeOk: %s", key, brief(tree))
		}
	}
	wantTree(t, "all taken away", tree, mapNode(nil))
}

func TestSetInItsPlace(t *testing.T) {
	one, two, three := intNode(1), intNode(2), intNode(3)
	bd := mapNode([]string{"b", "d"}, one, two)
	rows := []struct {
		what      string
		got, want node
	}{
		{"into the empty map", impl.Set(mapNode(nil), "a", one), mapNode([]string{"a"}, one)},
		{"the empty key into the empty map", impl.Set(mapNode(nil), "", one), mapNode([]string{""}, one)},
		{"the first", impl.Set(bd, "a", three), mapNode([]string{"a", "b", "d"}, three, one, two)},
		{"the empty key", impl.Set(bd, "", three), mapNode([]string{"", "b", "d"}, three, one, two)},
		{"between", impl.Set(bd, "c", three), mapNode([]string{"b", "c", "d"}, one, three, two)},
		{"the last", impl.Set(bd, "e", three), mapNode([]string{"b", "d", "e"}, one, two, three)},
		{"the first, there already", impl.Set(bd, "b", three), mapNode([]string{"b", "d"}, three, two)},
		{"the last, there already", impl.Set(bd, "d", three), mapNode([]string{"b", "d"}, one, three)},
		{"the same again", impl.Set(bd, "d", two), bd},
		{"behind its beginning", impl.Set(bd, "bb", three), mapNode([]string{"b", "bb", "d"}, one, three, two)},
		{"a great letter", impl.Set(bd, "C", three), mapNode([]string{"C", "b", "d"}, three, one, two)},
		{"the byte 255", impl.Set(bd, "\xff", three), mapNode([]string{"b", "d", "\xff"}, one, two, three)},
		{"nothing is something", impl.Set(bd, "b", node{}), mapNode([]string{"b", "d"}, node{}, two)},
		{"a map into itself", impl.Set(bd, "c", bd), mapNode([]string{"b", "c", "d"}, one, bd, two)},
		{"without the first", impl.Unset(bd, "b"), mapNode([]string{"d"}, two)},
		{"without the last", impl.Unset(bd, "d"), mapNode([]string{"b"}, one)},
		{"without what is not there", impl.Unset(bd, "c"), bd},
		{"without the empty key", impl.Unset(bd, ""), bd},
		{"the empty map without a key", impl.Unset(mapNode(nil), "a"), mapNode(nil)},
		{"without the only one", impl.Unset(mapNode([]string{""}, one), ""), mapNode(nil)},
		{"set and unset", impl.Unset(impl.Set(bd, "c", three), "c"), bd},
	}
	for _, r := range rows {
		wantTree(t, r.what, r.got, r.want)
	}
	wantTree(t, "what was handed in", bd, mapNode([]string{"b", "d"}, one, two))
}

// A map has as many Keys as Kids; of all else nothing is got, and it stays as it was.
func noMaps() []node {
	list := []node{
		mapNode([]string{"a"}),
		mapNode([]string{""}),
		mapNode(nil, intNode(1)),
		mapNode([]string{"a", "b"}, intNode(1)),
		mapNode([]string{"a"}, intNode(1), intNode(2)),
		{Kind: impl.NdMap, N: 3, S: "x", Keys: []string{"a"}},
	}
	for _, kind := range []int{impl.NdNull, impl.NdFlag, impl.NdInt, impl.NdText, impl.NdList, -1, 6, 1 << 40} {
		list = append(list,
			node{Kind: kind},
			node{Kind: kind, N: 1, S: "a"},
			node{Kind: kind, Keys: []string{"a"}, Kids: []node{intNode(1)}},
			node{Kind: kind, N: 5, S: "s", Keys: []string{"a", "b"}, Kids: []node{listNode(intNode(1)), mapNode([]string{"a"}, intNode(2))}})
	}
	return list
}

func TestNoMapStaysAsItWas(t *testing.T) {
	for _, n := range noMaps() {
		for _, key := range []string{"a", "", "b", "c", "0"} {
			wantNone(t, n, key)
			wantTree(t, "Set of no map", impl.Set(n, key, intNode(9)), n)
			wantTree(t, "Unset of no map", impl.Unset(n, key), n)
		}
	}
}

// Maps that are not TreeOk are maps: what is set is got, what is taken away is not, and all else stays.
func TestStrangeMaps(t *testing.T) {
	strange := []node{
		mapNode([]string{"b", "a"}, intNode(1), intNode(2)),
		mapNode([]string{"c", "a", "b"}, intNode(1), intNode(2), intNode(3)),
		mapNode([]string{"a", "a"}, intNode(1), intNode(2)),
		mapNode([]string{"b", "a", "b"}, intNode(1), intNode(2), intNode(3)),
		{Kind: impl.NdMap, N: 4, S: "x", Keys: []string{"a"}, Kids: []node{{Kind: 8, N: 3}}},
	}
	for _, n := range strange {
		for _, key := range []string{"", "a", "aa", "b", "c", "d"} {
			set, unset := impl.Set(n, key, textNode("set")), impl.Unset(n, key)
			wantGot(t, set, key, textNode("set"))
			wantNone(t, unset, key)
			if set.N != n.N || set.S != n.S || unset.N != n.N || unset.S != n.S {
				t.Errorf("%v at %q: %v, %v", n, key, set, unset)
			}
			for _, other := range n.Keys {
				if other != key {
					want, _ := impl.Get(n, other)
					wantGot(t, set, other, want)
					wantGot(t, unset, other, want)
				}
			}
			if there := slices.Contains(n.Keys, key); there && len(set.Keys) != len(n.Keys) || !there && len(set.Keys) != len(n.Keys)+1 {
				t.Errorf("%v with %q: %v", n, key, set)
			}
		}
	}
}

// Every tree call is made on trees with spare room; then either side is written into, and the other one read.
func TestTreesShareNothing(t *testing.T) {
	inner := mapNode([]string{"x", "y"}, listNode(intNode(1), intNode(2)), mapNode([]string{"z"}, textNode("q")))
	trees := append(noMaps(), inner, mapNode(nil), mapNode([]string{"b"}, inner), mapNode([]string{"a", "b", "c"}, inner, inner, listNode(inner)))
	calls := map[string]func(a, b node) node{
		"Get":      func(a, b node) node { x, _ := impl.Get(a, "b"); return x },
		"Set new":  func(a, b node) node { return impl.Set(a, "bb", b) },
		"Set last": func(a, b node) node { return impl.Set(a, "zz", b) },
		"Set old":  func(a, b node) node { return impl.Set(a, "b", b) },
		"Unset":    func(a, b node) node { return impl.Unset(a, "b") },
		"Unset no": func(a, b node) node { return impl.Unset(a, "bb") },
		"ListOf":   func(a, b node) node { return impl.ListOf(a.Kids) },
		"ListOf 2": func(a, b node) node { return impl.ListOf([]node{a, b, a}) },
	}
	for name, call := range calls {
		for _, a := range trees {
			for _, b := range []node{inner, listNode(), listNode(inner, inner)} {
				shareNothing(t, name, roomy(a), roomy(b), call)
				same := roomy(a)
				shareNothing(t, name+" of one twice", same, same, call)
			}
		}
	}
}

func shareNothing(t *testing.T, name string, a, b node, call func(a, b node) node) {
	t.Helper()
	wasA, wasB := wholeRoom(a), wholeRoom(b)
	answer := call(a, b)
	wantTree(t, name+": first argument", wholeRoom(a), wasA)
	wantTree(t, name+": second argument", wholeRoom(b), wasB)
	ownMemory(t, name, answer, a, b)
	was := snapshot(answer)
	again := call(a, b)
	scribble(again)
	wantTree(t, name+": first argument, the answer written into", wholeRoom(a), wasA)
	wantTree(t, name+": second argument, the answer written into", wholeRoom(b), wasB)
	scribble(a)
	scribble(b)
	wantTree(t, name+": answer, the arguments written into", answer, was)
}

func TestTreeAsksWriteNothing(t *testing.T) {
	for _, n := range append(goodTrees(), noMaps()...) {
		a, b := roomy(n), roomy(n)
		wasA, wasB := wholeRoom(a), wholeRoom(b)
		impl.TreeOk(a)
		impl.TreeSame(a, b)
		wantTree(t, "TreeOk, TreeSame", wholeRoom(a), wasA)
		wantTree(t, "TreeSame", wholeRoom(b), wasB)
	}
}

// Far deeper than any tree that is TreeOk, all of it is answered still.
func TestDeepTreesAreAnswered(t *testing.T) {
	const deep = 200000
	for _, inMaps := range []bool{false, true} {
		a, b := chain(deep, intNode(1), inMaps), chain(deep, intNode(2), inMaps)
		if impl.TreeOk(a) || impl.TreeSame(a, b) || !impl.TreeSame(a, a) {
			t.Error("deep trees")
		}
		if x, ok := impl.Get(impl.Set(mapNode(nil), "k", a), "k"); !ok || !impl.TreeSame(x, a) {
			t.Error("a deep tree is not got as it was set")
		}
	}
}
