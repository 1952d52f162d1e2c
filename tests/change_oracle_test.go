package tests

import (
	"fmt"
	"math/rand"
	"reflect"
	"testing"

	"loop.example/g00465/impl"
)

func likeMap(n node) bool { return n.Kind == impl.NdMap && len(n.Keys) == len(n.Kids) }

// changeOf is the change by the test's own means, of maps whose Keys ascend.
func changeOf(a, b node) node {
	if !likeMap(a) || !likeMap(b) {
		return b
	}
	had, has, out := model(a), model(b), map[string]node{}
	for key := range had {
		out[key] = node{}
	}
	for key, kid := range has {
		was, in := had[key]
		switch {
		case !in:
			out[key] = kid
		case reflect.DeepEqual(tidy(was), tidy(kid)):
			delete(out, key)
		default:
			out[key] = changeOf(was, kid)
		}
	}
	return mapOf(out)
}

func changedOf(a, p node) node {
	if !likeMap(a) || !likeMap(p) {
		return p
	}
	out := model(a)
	for key, kid := range model(p) {
		was, in := out[key]
		switch {
		case kid.Kind == impl.NdNull:
			delete(out, key)
		case in:
			out[key] = changedOf(was, kid)
		default:
			out[key] = kid
		}
	}
	whole := mapOf(out)
	whole.N, whole.S = a.N, a.S
	return whole
}

func nullIn(n node) bool {
	for _, kid := range n.Kids {
		if n.Kind == impl.NdMap && kid.Kind == impl.NdNull || nullIn(kid) {
			return true
		}
	}
	return false
}

// anyChanging is a tree of few Keys, so that two of these have some in common; with nothing in maps, or without.
func anyChanging(r *rand.Rand, deep int, nothing bool) node {
	kind := r.Intn(10)
	if deep == 1 {
		kind = r.Intn(4)
	}
	switch kind {
	case 0:
		if nothing {
			return node{}
		}
		return flagNode(r.Intn(2))
	case 1:
		return intNode(r.Intn(3))
	case 2:
		return textNode([]string{"", "x", "y"}[r.Intn(3)])
	case 3:
		return [](node){listNode(), mapNode(nil), listNode(intNode(1)), listNode(node{})}[r.Intn(4)]
	case 4:
		return listNode(anyChanging(r, deep-1, nothing), node{}, anyChanging(r, deep-1, nothing))
	}
	return anyChangingMap(r, deep, nothing)
}

func anyChangingMap(r *rand.Rand, deep int, nothing bool) node {
	have := map[string]node{}
	for range r.Intn(5) {
		have[changingKeys[r.Intn(len(changingKeys))]] = anyChanging(r, deep-1, nothing)
	}
	return mapOf(have)
}

var changingKeys = []string{"", " ", "10", "9", "B", "a", "aa", "b", "c", "~"}

// turned is a tree with a few things within it turned to others.
func turned(r *rand.Rand, n node, nothing bool) node {
	n = snapshot(n)
	if len(n.Kids) == 0 || r.Intn(6) == 0 {
		return anyChanging(r, 2, nothing)
	}
	at := r.Intn(len(n.Kids))
	if n.Kind != impl.NdMap || r.Intn(2) == 0 {
		n.Kids[at] = turned(r, n.Kids[at], nothing)
		return withoutNull(n, nothing)
	}
	if r.Intn(2) == 0 {
		return cutAt(n, n.Keys[at])
	}
	return withoutNull(putAt(n, anyChanging(r, 3, nothing), changingKeys[r.Intn(len(changingKeys))]), nothing)
}

// withoutNull puts something for nothing into a map, where there is to be none.
func withoutNull(n node, nothing bool) node {
	for i, kid := range n.Kids {
		if n.Kind == impl.NdMap && !nothing && kid.Kind == impl.NdNull {
			n.Kids[i] = flagNode(1)
		}
	}
	return n
}

// anyPair are two trees, of which the second one may be the first one turned; nothing is within the maps of the second one only where it is asked for.
func anyPair(r *rand.Rand, nothing bool) (node, node) {
	a := anyChangingMap(r, 5, true)
	if r.Intn(12) == 0 {
		a = anyChanging(r, 5, true)
	}
	if r.Intn(3) == 0 {
		return a, anyChangingMap(r, 5, nothing)
	}
	b := a
	if !nothing {
		b = emptied(a)
	}
	for range r.Intn(4) {
		b = turned(r, b, nothing)
	}
	return a, b
}

// emptied is a tree whose maps have no Kid that is nothing.
func emptied(n node) node {
	n = snapshot(n)
	for i := len(n.Kids) - 1; i >= 0; i-- {
		n.Kids[i] = emptied(n.Kids[i])
	}
	if n.Kind != impl.NdMap {
		return n
	}
	have := model(n)
	for key, kid := range have {
		if kid.Kind == impl.NdNull {
			delete(have, key)
		}
	}
	return mapOf(have)
}

// wantChange holds both answers against the test's own.
func wantChange(t *testing.T, a, b node) {
	t.Helper()
	p := impl.Change(a, b)
	wantTree(t, fmt.Sprintf("Change(%s, %s)", brief(a), brief(b)), p, changeOf(a, b))
	wantTree(t, fmt.Sprintf("Changed(%s, %s)", brief(a), brief(p)), impl.Changed(a, p), changedOf(a, p))
	wantTree(t, fmt.Sprintf("Changed(%s, %s)", brief(a), brief(b)), impl.Changed(a, b), changedOf(a, b))
}

// wantOther asks for the promise: changed by its change one is the other, and it stays so.
func wantOther(t *testing.T, a, b node) {
	t.Helper()
	p := impl.Change(a, b)
	wantTree(t, fmt.Sprintf("%s changed by its change to %s", brief(a), brief(b)), impl.Changed(a, p), b)
	wantTree(t, fmt.Sprintf("%s changed by the change to it", brief(b)), impl.Changed(b, p), b)
	again := impl.Changed(impl.Changed(a, p), p)
	wantTree(t, fmt.Sprintf("%s changed twice by its change to %s", brief(a), brief(b)), again, b)
	none := impl.Change(b, b)
	if !likeMap(b) {
		wantTree(t, "the change of no map to itself", none, b)
		return
	}
	wantTree(t, fmt.Sprintf("the change of %s to itself", brief(b)), none, mapNode(nil))
	wantTree(t, fmt.Sprintf("%s changed by nothing", brief(b)), impl.Changed(b, none), b)
}

func TestChangedByItsChangeOneIsTheOther(t *testing.T) {
	r := rand.New(rand.NewSource(100))
	told := map[string]int{}
	for range 10000 {
		a, b := anyPair(r, false)
		if !impl.TreeOk(a) || !impl.NoNull(b) {
			t.Fatalf("no pair: %s, %s", brief(a), brief(b))
		}
		wantOther(t, a, b)
		wantChange(t, a, b)
		p := impl.Change(a, b)
		told[fmt.Sprintf("maps %v", likeMap(a) && likeMap(b))]++
		told[fmt.Sprintf("null %v", nullIn(p))]++
		told[fmt.Sprintf("none %v", reflect.DeepEqual(tidy(p), mapNode(nil)))]++
		for _, kid := range p.Kids {
			told[fmt.Sprintf("within %v", len(kid.Keys) > 0)]++
		}
	}
	for _, what := range []string{"maps", "null", "none", "within"} {
		if told[what+" true"] < 300 || told[what+" false"] < 300 {
			t.Errorf("%s: %v", what, told)
		}
	}
}

// With nothing in maps what is answered is the same still, but one is not the other.
func TestChangesWithNothingInMaps(t *testing.T) {
	r := rand.New(rand.NewSource(101))
	lost := 0
	for range 10000 {
		a, b := anyPair(r, true)
		wantChange(t, a, b)
		if got := impl.NoNull(b); got != !nullIn(b) {
			t.Fatalf("NoNull(%s) = %v", brief(b), got)
		}
		if !reflect.DeepEqual(tidy(impl.Changed(a, impl.Change(a, b))), tidy(b)) {
			lost++
			if impl.NoNull(b) {
				t.Fatalf("%s changed by its change is not %s", brief(a), brief(b))
			}
		}
	}
	if lost < 300 {
		t.Errorf("only %d trees were lost by nothing in a map", lost)
	}
}

// Each tree with each other one, alone, and as what stands at a Key of both, or of the one.
func TestChangesOfAllPairs(t *testing.T) {
	list := append(append(goodTrees()[:37], differing()...), noMaps()...)
	for _, a := range list {
		if likeMap(a) && !ascending(a.Keys) {
			continue
		}
		for _, b := range list {
			if likeMap(b) && !ascending(b.Keys) {
				continue
			}
			wantChange(t, a, b)
			one, two := mapNode([]string{"a", "k"}, intNode(1), a), mapNode([]string{"k", "z"}, b, intNode(1))
			wantChange(t, one, two)
			wantChange(t, mapNode([]string{"k"}, one), mapNode([]string{"k"}, two))
			wantChange(t, listNode(a), listNode(b))
			if impl.TreeOk(a) && impl.NoNull(b) {
				wantOther(t, a, b)
				wantOther(t, listNode(a), listNode(b))
			}
			if impl.TreeOk(one) && impl.NoNull(two) {
				wantOther(t, one, two)
			}
		}
	}
}
