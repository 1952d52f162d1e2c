package tests

import (
	"fmt"
	"reflect"
	"slices"
	"testing"

	"loop.example/g00465/impl"
)

func TestMidListsAreNewMemory(t *testing.T) {
	for _, want := range []order{fullOrder(), withPace(fullOrder(), newPace)} {
		tree := midModel(want)
		for range 2 {
			o, _ := impl.MidOf(tree)
			if !impl.OrderSame(o, want) {
				t.Fatalf("read: %+v", o)
			}
			// What is written into one answer is not to be seen in the next one.
			for i := range o.Metrics[:cap(o.Metrics)] {
				o.Metrics[:cap(o.Metrics)][i] = metricOf("scribbled", 9, 9)
			}
			for i := range o.Notes[:cap(o.Notes)] {
				o.Notes[:cap(o.Notes)][i] = noteOf("scribbled", "9")
			}
		}
		wantTree(t, "what was handed in", tree, midModel(want))
	}
}

// A note is taken away from what was read, not from what was handed in; also where another one does not fit, or more stands in spare room.
func TestMidOfWritesIntoNothing(t *testing.T) {
	trees := midBases()
	for _, base := range midBases() {
		for _, f := range midFaults(t) {
			trees = append(trees, f.in(base))
		}
	}
	for _, n := range slices.Concat(trees, shapedTrees(t), goodTrees(), badTrees()[:60], noMaps()) {
		arg := roomy(n)
		was := wholeRoom(arg)
		first, way := impl.MidOf(arg)
		wantTree(t, "what was handed in", wholeRoom(arg), was)
		if again, other := impl.MidOf(n); other != way || !impl.OrderSame(first, again) {
			t.Errorf("of %s: %+v, %q, then %+v, %q", brief(n), first, way, again, other)
		}
	}
}

func TestMidTreeOfListsThatShareRoom(t *testing.T) {
	notes := keyedNotes("a", "b", "c", "d", "e", "f", "g", "h")
	o := webOrder()
	o.Notes = notes[:4]
	tree := impl.MidTree(o)
	if !reflect.DeepEqual(notes, keyedNotes("a", "b", "c", "d", "e", "f", "g", "h")) {
		t.Errorf("what was handed in is %+v", notes)
	}
	kept := snapshot(tree)
	for i := range notes {
		notes[i] = note{}
	}
	wantTree(t, "what was handed in written into", tree, kept)
}

// Of what is no tree there is an answer, too, and it is the same each time.
func TestMidOfWhatIsNoTree(t *testing.T) {
	for i, n := range badTrees() {
		trees := []node{n, listNode(n), mapNode([]string{"name"}, n)}
		for _, key := range []string{"high", "kind", "low", "metrics", "name", "notes", "pace", "target"} {
			trees = append(trees, impl.Set(leastMid(), key, n), impl.Set(leastMid(), key, listNode(n)), impl.Set(leastMid(), key, mapNode([]string{"quay/pace"}, n)))
		}
		for _, tree := range trees {
			first, way := impl.MidOf(tree)
			if again, other := impl.MidOf(tree); other != way || !reflect.DeepEqual(first, again) {
				t.Errorf("of tree %d: %.300s, %q, then %.300s, %q", i, fmt.Sprint(first), way, fmt.Sprint(again), other)
			}
			if way != "" && !impl.OrderSame(first, order{}) {
				t.Errorf("of tree %d: %.300s beside the way %q", i, fmt.Sprint(first), way)
			}
		}
	}
}

// Maps whose Keys do not ascend are maps, and of a Kid only what its kind names is looked at.
func TestMidOfMapsOutOfOrder(t *testing.T) {
	turned := func(n node) node {
		n = snapshot(n)
		slices.Reverse(n.Keys)
		slices.Reverse(n.Kids)
		return n
	}
	wantMid(t, turned(midModel(webOrder())), webOrder())
	kept := textNode(paceWord(webOrder().Pace))
	one := withNotes(webOrder(), noteOf("r", "x"))
	wantMid(t, putAt(midModel(one), turned(model(midModel(one))["notes"]), "notes"), one)
	// With the Pace taken away the others stand as they stood: that is no order.
	wantMidWay(t, putAt(leastMid(), mapNode([]string{"b", "quay/pace", "a"}, textNode(""), kept, textNode("")), "notes"), ".")
	wantMidWay(t, mapNode([]string{"z", "pace", "kind"}, node{}, node{}, node{}), "pace")
	wantMidWay(t, mapNode([]string{"target", "name", "kind"}, node{}, node{}, node{}), "high")
	more := midModel(webOrder())
	for i := range more.Kids {
		more.Kids[i].N += more.Kids[i].Kind / impl.NdText
	}
	wantMid(t, more, webOrder())
}

// Of two alike Keys the first one is the kept Pace; the other is another note that begins with `quay/`.
func TestMidOfTwoKeptPaces(t *testing.T) {
	p := webOrder().Pace
	kept, other, bad := textNode(paceWord(p)), textNode(paceWord(impl.Pace{Up: 9})), textNode("x")
	for _, kids := range [][]node{{kept, kept}, {kept, other}, {kept, bad}, {bad, kept}, {bad, bad}, {kept, kept, kept}} {
		keys := slices.Repeat([]string{"quay/pace"}, len(kids))
		wantMidWay(t, putAt(leastMid(), mapNode(keys, kids...), "notes"), "notes/quay/pace")
	}
	two := mapNode([]string{"high", "high", "kind", "name", "target"}, intNode(3), intNode(0), textNode("middle"), textNode("a"), textNode("b"))
	wantMid(t, two, leastOrder())
}

// A map that has not as many Keys as Kids is none, wherever it stands.
func TestMidOfNoMaps(t *testing.T) {
	for _, n := range noMaps() {
		wantMidWay(t, n, ".")
		wantMidWaysWith(t, "notes", n, "notes")
		wantMidWaysWith(t, "pace", n, "pace")
		if n.Kind != impl.NdList {
			wantMidWaysWith(t, "metrics", n, "metrics")
		}
	}
	kept := textNode(paceWord(webOrder().Pace))
	wantMidWaysWith(t, "notes", mapNode([]string{"quay/pace"}, kept, kept), "notes")
	wantMidWaysWith(t, "notes", mapNode([]string{"a", "quay/pace"}, kept), "notes")
	whole := midModel(webOrder())
	wantMidWay(t, mapNode(whole.Keys, whole.Kids[:6]...), ".")
	wantMidWay(t, mapNode(whole.Keys[:6], whole.Kids...), ".")
}

// Kids that stand within themselves have no end; what is asked of them has one.
func TestMidOfEndlessTrees(t *testing.T) {
	kids := make([]node, 1)
	kids[0] = node{Kind: impl.NdMap, Keys: []string{"quay/pace"}, Kids: kids}
	endless := kids[0]
	wantMidWay(t, endless, "quay/pace")
	for _, key := range []string{"high", "kind", "low", "metrics", "name", "pace", "target"} {
		n := leastMid()
		at := slices.Index(n.Keys, key)
		if at < 0 {
			n.Keys, n.Kids, at = append(n.Keys, key), append(n.Kids, node{}), len(n.Keys)
		}
		n.Kids[at] = endless
		wantMidWay(t, n, key)
	}
	n := leastMid()
	n.Keys, n.Kids = append(n.Keys, "notes"), append(n.Kids, endless)
	wantMidWay(t, n, "notes/quay/pace")
}
