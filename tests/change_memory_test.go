package tests

import (
	"fmt"
	"math/rand"
	"reflect"
	"testing"

	"loop.example/g00465/impl"
)

func strangeTrees() []node {
	return append(append(append(goodTrees()[:37], badTrees()[:60]...), noMaps()...),
		mapNode([]string{"b", "a"}, intNode(1), intNode(2)),
		mapNode([]string{"c", "a", "b"}, intNode(1), node{}, intNode(3)),
		mapNode([]string{"a", "a"}, intNode(1), intNode(2)),
		mapNode([]string{"a", "a"}, node{}, intNode(2)),
		mapNode([]string{"a", "a"}, intNode(1), node{}),
		mapNode([]string{"b", "a", "b", "a"}, mapNode([]string{"y", "x"}, intNode(1), node{}), intNode(2), intNode(3), node{}),
		node{Kind: impl.NdMap, N: 4, S: "x", Keys: []string{"a"}, Kids: []node{{Kind: 8, N: 3}}},
	)
}

// The change of a map is a map whose Keys ascend, also where those of maps that are none of TreeOk do not; and the same each time.
func TestChangesOfStrangeTrees(t *testing.T) {
	list := strangeTrees()
	for _, a := range list {
		for _, b := range list {
			p, c := impl.Change(a, b), impl.Changed(a, b)
			if !reflect.DeepEqual(tidy(p), tidy(impl.Change(a, b))) || !reflect.DeepEqual(tidy(c), tidy(impl.Changed(a, b))) {
				t.Fatalf("of %s and %s: not the same twice", brief(a), brief(b))
			}
			if !likeMap(a) || !likeMap(b) {
				wantTree(t, "Change of no map", p, b)
				wantTree(t, "Changed of no map", c, b)
				continue
			}
			if p.Kind != impl.NdMap || p.N != 0 || p.S != "" || len(p.Keys) != len(p.Kids) || !ascending(p.Keys) {
				t.Fatalf("Change(%s, %s) = %s", brief(a), brief(b), brief(p))
			}
			if c.Kind != impl.NdMap || c.N != a.N || c.S != a.S || len(c.Keys) != len(c.Kids) {
				t.Fatalf("Changed(%s, %s) = %s", brief(a), brief(b), brief(c))
			}
			wantKeysOfBoth(t, a, b, p, c)
		}
	}
}

// wantKeysOfBoth asks Key by Key, of alike ones for the first, as Get does.
func wantKeysOfBoth(t *testing.T, a, b, p, c node) {
	t.Helper()
	for _, key := range append(append([]string{"zz"}, a.Keys...), b.Keys...) {
		was, had := impl.Get(a, key)
		is, has := impl.Get(b, key)
		switch {
		case had && !has:
			wantGot(t, p, key, node{})
			wantGot(t, c, key, was)
		case has && !had:
			wantGot(t, p, key, is)
		case !had || impl.TreeSame(was, is):
			wantNone(t, p, key)
		default:
			wantGot(t, p, key, impl.Change(was, is))
		}
		switch {
		case has && is.Kind == impl.NdNull, !had && !has:
			wantNone(t, c, key)
		case has && had:
			wantGot(t, c, key, impl.Changed(was, is))
		case has:
			wantGot(t, c, key, is)
		}
	}
}

func TestChangesOfMapsOutOfOrder(t *testing.T) {
	one, two, three := intNode(1), intNode(2), intNode(3)
	ba := mapNode([]string{"b", "a"}, one, two)
	rows := []struct {
		what      string
		got, want node
	}{
		{"to Keys in order", impl.Change(ba, mapNode([]string{"a", "b"}, two, one)), mapNode(nil)},
		{"the same within is not the same", impl.Change(mapNode([]string{"k"}, ba), mapNode([]string{"k"}, mapNode([]string{"a", "b"}, two, one))), mapNode([]string{"k"}, mapNode(nil))},
		{"to none", impl.Change(ba, mapNode(nil)), mapNode([]string{"a", "b"}, node{}, node{})},
		{"from none", impl.Change(mapNode(nil), ba), mapNode([]string{"a", "b"}, two, one)},
		{"to others", impl.Change(mapNode([]string{"c", "a"}, one, two), ba), mapNode([]string{"b", "c"}, one, node{})},
		{"Keys stay where they stand", impl.Changed(ba, mapNode([]string{"a"}, three)), mapNode([]string{"b", "a"}, one, three)},
		{"in its place by bytes", impl.Changed(ba, mapNode([]string{"aa"}, three)), mapNode([]string{"aa", "b", "a"}, three, one, two)},
		{"behind all", impl.Changed(ba, mapNode([]string{"c"}, three)), mapNode([]string{"b", "a", "c"}, one, two, three)},
		{"what is put out of order", impl.Changed(mapNode([]string{"c"}, one), mapNode([]string{"d", "b", "a"}, two, three, node{})), mapNode([]string{"b", "c", "d"}, three, one, two)},
		{"what is put as it is", impl.Changed(mapNode(nil), mapNode([]string{"k"}, ba)), mapNode([]string{"k"}, ba)},
		{"the first of two takes away", impl.Changed(mapNode([]string{"x"}, one), mapNode([]string{"x", "x"}, node{}, two)), mapNode(nil)},
		{"the first of two does not", impl.Changed(mapNode([]string{"x"}, one), mapNode([]string{"x", "x"}, two, node{})), mapNode([]string{"x"}, two)},
		{"the first of two is put", impl.Changed(mapNode(nil), mapNode([]string{"x", "x"}, two, three)), mapNode([]string{"x"}, two)},
		{"both are taken away", impl.Changed(mapNode([]string{"x", "x"}, one, two), mapNode([]string{"x"}, node{})), mapNode(nil)},
		{"the first of two is turned", impl.Changed(mapNode([]string{"x", "x"}, one, two), mapNode([]string{"x"}, three)), mapNode([]string{"x", "x"}, three, two)},
		{"the first of two is the same", impl.Change(mapNode([]string{"x", "x"}, one, two), mapNode([]string{"x"}, one)), mapNode(nil)},
		{"the first of two is another", impl.Change(mapNode([]string{"x"}, two), mapNode([]string{"x", "x"}, one, two)), mapNode([]string{"x"}, one)},
		{"what else a map has stays", impl.Changed(node{Kind: impl.NdMap, N: 4, S: "s", Keys: []string{"a"}, Kids: []node{one}}, node{Kind: impl.NdMap, N: 5, S: "t", Keys: []string{"a"}, Kids: []node{{}}}), node{Kind: impl.NdMap, N: 4, S: "s"}},
		{"what else a map has is no change", impl.Change(node{Kind: impl.NdMap, N: 4, S: "s"}, node{Kind: impl.NdMap, N: 5, S: "t"}), mapNode(nil)},
		{"nothing that has more is nothing", impl.Changed(mapNode([]string{"a"}, one), mapNode([]string{"a"}, node{N: 3, S: "x"})), mapNode(nil)},
		{"no kind is something", impl.Changed(mapNode([]string{"a"}, one), mapNode([]string{"a"}, node{Kind: -1})), mapNode([]string{"a"}, node{Kind: -1})},
		{"a map with a Key too many is none", impl.Changed(mapNode([]string{"a"}, one), mapNode([]string{"a", "b"}, node{})), mapNode([]string{"a", "b"}, node{})},
		{"a map with a Kid too many is none", impl.Change(mapNode([]string{"a"}, one, two), mapNode([]string{"b"}, one)), mapNode([]string{"b"}, one)},
		{"within", impl.Changed(mapNode([]string{"k"}, ba), mapNode([]string{"k"}, mapNode([]string{"a", "b"}, node{}))), mapNode([]string{"k"}, mapNode([]string{"a", "b"}, node{}))},
	}
	for _, r := range rows {
		wantTree(t, r.what, r.got, r.want)
	}
}

// Deeper than any tree that is TreeOk there is an answer still.
func TestChangesOfDeepTrees(t *testing.T) {
	const deep = 1000
	for _, inMaps := range []bool{false, true} {
		a, b := chain(deep, intNode(1), inMaps), chain(deep, intNode(2), inMaps)
		p := impl.Change(a, b)
		wantTree(t, "the change of deep trees", p, b)
		wantTree(t, "changed by it", impl.Changed(a, p), b)
	}
}

func TestChangesShareNothing(t *testing.T) {
	calls := map[string]func(a, b node) node{
		"Change":  impl.Change,
		"Changed": impl.Changed,
		"Changed by its change": func(a, b node) node {
			return impl.Changed(a, impl.Change(a, b))
		},
	}
	r := rand.New(rand.NewSource(102))
	for name, call := range calls {
		for i := range 500 {
			a, b := anyPair(r, true)
			shareNothing(t, fmt.Sprintf("%s, pair %d", name, i), roomy(a), roomy(b), call)
			same := roomy(a)
			shareNothing(t, fmt.Sprintf("%s, pair %d, one twice", name, i), same, same, call)
			if len(same.Kids) > 0 {
				shareRoom(t, name, same, same.Kids[0], call)
				shareRoom(t, name, same.Kids[0], same, call)
			}
		}
		list := strangeTrees()
		for range 1000 {
			a, b := list[r.Intn(len(list))], list[r.Intn(len(list))]
			shareNothing(t, name+" of strange trees", roomy(a), roomy(b), call)
		}
	}
}

// shareRoom hands in a tree and what stands within it.
func shareRoom(t *testing.T, name string, a, b node, call func(a, b node) node) {
	t.Helper()
	wasA, wasB := wholeRoom(a), wholeRoom(b)
	answer := call(a, b)
	wantTree(t, name+": first argument", wholeRoom(a), wasA)
	wantTree(t, name+": second argument", wholeRoom(b), wasB)
	ownMemory(t, name+" of one within the other", answer, a, b)
}

// A Kid that stands at more than one Key, or in both trees, is copied for each.
func TestChangesOfKidsThatShareMemory(t *testing.T) {
	inner := mapNode([]string{"x", "y"}, listNode(intNode(1)), mapNode([]string{"z"}, intNode(2)))
	a := mapNode([]string{"a", "b"}, inner, mapNode([]string{"x"}, inner))
	b := mapNode([]string{"a", "b", "c", "d"}, mapNode([]string{"x", "y"}, inner, inner), inner, inner, inner)
	for _, call := range []func(a, b node) node{impl.Change, impl.Changed} {
		ownMemory(t, "Kids that share memory", call(a, b), a, b)
		ownMemory(t, "Kids that share memory", call(b, a), a, b)
		ownMemory(t, "Kids that share memory", call(mapNode(nil), b), b)
		ownMemory(t, "Kids that share memory", call(b, mapNode(nil)), b)
		ownMemory(t, "Kids that share memory", call(intNode(1), b), b)
	}
}

func TestNoNullWritesNothing(t *testing.T) {
	for i, n := range strangeTrees() {
		arg := roomy(n)
		was := wholeRoom(arg)
		first := impl.NoNull(arg)
		wantTree(t, fmt.Sprintf("NoNull of tree %d", i), wholeRoom(arg), was)
		if impl.NoNull(n) != first {
			t.Errorf("NoNull of tree %d is not the same twice", i)
		}
	}
}
