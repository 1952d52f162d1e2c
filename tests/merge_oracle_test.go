package tests

import (
	"fmt"
	"maps"
	"math/rand"
	"reflect"
	"slices"
	"testing"

	"loop.example/g00465/impl"
)

func alikeTrees(a, b node) bool { return reflect.DeepEqual(tidy(a), tidy(b)) }

// firsts is what a map has, of alike Keys the first one.
func firsts(n node) map[string]node {
	out := map[string]node{}
	for i := len(n.Keys) - 1; i >= 0; i-- {
		out[n.Keys[i]] = n.Kids[i]
	}
	return out
}

// mergeOf is what both want by the test's own means: each way in which a Key may be there has a row of its own.
func mergeOf(base, a, b node) (node, []string) {
	switch {
	case alikeTrees(b, base) || alikeTrees(a, b):
		return a, nil
	case alikeTrees(a, base):
		return b, nil
	case !likeMap(base) || !likeMap(a) || !likeMap(b):
		return a, []string{"."}
	}
	was, one, two := firsts(base), firsts(a), firsts(b)
	all, out := firsts(base), map[string]node{}
	maps.Copy(all, one)
	maps.Copy(all, two)
	var ways []string
	for _, key := range slices.Sorted(maps.Keys(all)) {
		x, inBase := was[key]
		y, inA := one[key]
		z, inB := two[key]
		isWay := false
		switch fmt.Sprint(inBase, inA, inB) {
		case "true false false":
		case "false true false":
			out[key] = y
		case "false false true":
			out[key] = z
		case "true true false":
			if isWay = !alikeTrees(x, y); isWay {
				out[key] = y
			}
		case "true false true":
			isWay = !alikeTrees(x, z)
		case "false true true":
			out[key], isWay = y, !alikeTrees(y, z)
		default:
			kid, below := mergeOf(x, y, z)
			out[key] = kid
			for _, way := range below {
				if way == "." {
					isWay = true
				} else {
					ways = append(ways, key+"/"+way)
				}
			}
		}
		if isWay {
			ways = append(ways, key)
		}
	}
	return mapOf(out), ways
}

// wantMerged holds the answers against the test's own, and asks for the promise.
func wantMerged(t *testing.T, base, a, b node) {
	t.Helper()
	for _, pair := range [][2]node{{a, b}, {b, a}} {
		want, wantWays := mergeOf(base, pair[0], pair[1])
		got, ways := impl.Merge(base, pair[0], pair[1])
		what := fmt.Sprintf("Merge(%s, %s, %s)", brief(base), brief(pair[0]), brief(pair[1]))
		wantTree(t, what, got, want)
		if !slices.Equal(ways, wantWays) {
			t.Fatalf("%s tells the ways %q, want %q", what, ways, wantWays)
		}
	}
	wantPromise(t, base, a, b)
}

// turnedAbout is a map with many of its Kids turned to others or taken away, and some new ones.
func turnedAbout(r *rand.Rand, n node, nothing bool) node {
	have := map[string]node{}
	for i, key := range n.Keys {
		kid := n.Kids[i]
		switch r.Intn(8) {
		case 0:
			continue
		case 1:
			kid = anyChanging(r, 2, nothing)
		case 2, 3, 4:
			if likeMap(kid) {
				kid = turnedAbout(r, kid, nothing)
			}
		}
		have[key] = kid
	}
	for range r.Intn(3) {
		have[changingKeys[r.Intn(len(changingKeys))]] = anyChanging(r, 2, nothing)
	}
	return withoutNull(mapOf(have), nothing)
}

func turnedOften(r *rand.Rand, n node, nothing bool) node {
	if likeMap(n) && r.Intn(2) == 0 {
		return turnedAbout(r, n, nothing)
	}
	for range r.Intn(4) {
		n = turned(r, n, nothing)
	}
	return n
}

// anyThree are a tree and two that it was turned to, by turns of which some are of both.
func anyThree(r *rand.Rand, nothing bool) (node, node, node) {
	base := anyChangingMap(r, 5, nothing)
	if r.Intn(20) == 0 {
		base = anyChanging(r, 5, nothing)
	}
	both := base
	if r.Intn(2) == 0 {
		both = turnedOften(r, base, nothing)
	}
	return base, turnedOften(r, both, nothing), turnedOften(r, both, nothing)
}

// pairMark is `-` of a Key that is not in both of a pair.
func pairMark(x, y map[string]node, key string) string {
	one, inX := x[key]
	two, inY := y[key]
	switch {
	case !inX || !inY:
		return "-"
	case alikeTrees(one, two):
		return "="
	}
	return "/"
}

func there(n map[string]node, key string) string {
	if _, in := n[key]; in {
		return "x"
	}
	return "."
}

// patterns tells of each Key in which of base, a and b it is, and which of these are the same.
func patterns(told map[string]int, base, a, b node) {
	was, one, two := firsts(base), firsts(a), firsts(b)
	for _, key := range changingKeys {
		told[there(was, key)+there(one, key)+there(two, key)+pairMark(was, one, key)+pairMark(was, two, key)+pairMark(one, two, key)]++
		x, y, z := was[key], one[key], two[key]
		if likeMap(x) && likeMap(y) && likeMap(z) {
			told["within"]++
			patterns(told, x, y, z)
		}
	}
}

func TestMergeOfManyTrees(t *testing.T) {
	r := rand.New(rand.NewSource(110))
	told := map[string]int{}
	for range 8000 {
		base, a, b := anyThree(r, true)
		wantMerged(t, base, a, b)
		merged, ways := impl.Merge(base, a, b)
		told[fmt.Sprintf("agreed %v", len(ways) == 0)]++
		told[fmt.Sprintf("many ways %v", len(ways) > 1)]++
		told[fmt.Sprintf("whole %v", slices.Equal(ways, []string{"."}))]++
		told[fmt.Sprintf("one of both %v", alikeTrees(merged, a) || alikeTrees(merged, b))]++
		if likeMap(base) && likeMap(a) && likeMap(b) {
			patterns(told, base, a, b)
		}
	}
	for _, what := range []string{"agreed true", "agreed false", "many ways true", "whole true", "one of both true", "one of both false", "within"} {
		if told[what] < 30 {
			t.Errorf("%s: %v", what, told)
		}
	}
	for _, what := range []string{"x..---", ".x.---", "..x---", "xx.=--", "xx./--", "x.x-=-", "x.x-/-", ".xx--=", ".xx--/", "xxx===", "xxx=//", "xxx/=/", "xxx//=", "xxx///"} {
		if told[what] < 300 {
			t.Errorf("%s: %v", what, told)
		}
	}
}

// Of maps in which nothing is nothing, where both are agreed, what both want is also what the one made, changed by the change of the other.
func TestMergeIsTheChangeOfOnePutOntoTheOther(t *testing.T) {
	r := rand.New(rand.NewSource(111))
	agreed := 0
	for range 10000 {
		base, a, b := anyThree(r, false)
		if !likeMap(base) || !likeMap(a) || !likeMap(b) {
			continue
		}
		if !impl.NoNull(base) || !impl.NoNull(a) || !impl.NoNull(b) {
			t.Fatalf("nothing in a map of %s, %s, %s", brief(base), brief(a), brief(b))
		}
		merged, ways := impl.Merge(base, a, b)
		if len(ways) == 0 {
			agreed++
			wantTree(t, fmt.Sprintf("of %s, %s and %s", brief(base), brief(a), brief(b)), merged, impl.Changed(a, impl.Change(base, b)))
		}
	}
	if agreed < 2000 {
		t.Errorf("%d are agreed", agreed)
	}
}

// Three that have nothing to do with each other.
func TestMergeOfAnyTrees(t *testing.T) {
	r := rand.New(rand.NewSource(112))
	for range 3000 {
		wantMerged(t, anyChangingMap(r, 4, true), anyChangingMap(r, 4, true), anyChangingMap(r, 4, true))
		wantMerged(t, anyChanging(r, 4, true), anyChanging(r, 4, true), anyChanging(r, 4, true))
		wantMerged(t, anyTree(r, 5), anyTree(r, 5), anyTree(r, 5))
	}
}

// All threes of a few trees: alone, at a Key, within two Keys, and at one of two Keys.
func TestMergeOfAllThrees(t *testing.T) {
	list := []node{{Kind: -1}, {}, intNode(1), textNode(""), listNode(), listNode(mapNode(nil)), mapNode(nil)}
	for _, kid := range []node{{}, intNode(1), intNode(2), mapNode([]string{"y"}, intNode(1)), mapNode([]string{"y"}, intNode(2))} {
		list = append(list, mapNode([]string{"x"}, kid))
	}
	none := node{Kind: 99}
	in := func(kid node) node {
		if kid.Kind == none.Kind {
			return mapNode([]string{"a"}, intNode(1))
		}
		return mapNode([]string{"a", "k"}, intNode(1), kid)
	}
	for _, base := range append(list, none) {
		for _, a := range append(list, none) {
			for _, b := range append(list, none) {
				if base.Kind != none.Kind && a.Kind != none.Kind && b.Kind != none.Kind {
					wantMerged(t, base, a, b)
					wantMerged(t, listNode(base), listNode(a), listNode(b))
				}
				wantMerged(t, in(base), in(a), in(b))
				wantMerged(t, in(in(base)), in(in(a)), in(in(b)))
				wantMerged(t, mapNode([]string{"", "b"}, in(base), in(a)), mapNode([]string{"", "b"}, in(a), in(b)), mapNode([]string{"", "b"}, in(b), in(base)))
			}
		}
	}
}
