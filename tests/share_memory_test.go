package tests

import (
	"fmt"
	"reflect"
	"slices"
	"testing"

	"loop.example/g00465/impl"
)

func TestPlainListsAreNewMemory(t *testing.T) {
	shared := withMetrics(fullOrder(), metricOf("a", 1, 1), metricOf("b", 2, 2), cpuOf(10), metricOf("d", 3, 3))
	for _, want := range []order{fullOrder(), shared, withMetrics(webOrder(), cpuOf(10)), withPace(webOrder(), newPace)} {
		tree := plainModel(want)
		for i := range 4 {
			o, way := impl.PlainOf(tree)
			if i%2 == 1 {
				o, _, way = impl.Shaped(tree)
			}
			if way != "" || !impl.OrderSame(o, want) {
				t.Fatalf("read: %+v, %q", o, way)
			}
			// What is written into one answer is not to be seen in the next one.
			for i := range o.Metrics[:cap(o.Metrics)] {
				o.Metrics[:cap(o.Metrics)][i] = metricOf("scribbled", 9, 9)
			}
			for i := range o.Notes[:cap(o.Notes)] {
				o.Notes[:cap(o.Notes)][i] = noteOf("scribbled", "9")
			}
		}
		wantTree(t, "what was handed in", tree, plainModel(want))
	}
}

// Notes are taken away from what was read, not from what was handed in; also where another one does not fit, or more stands in spare room.
func TestPlainOfWritesIntoNothing(t *testing.T) {
	trees := plainBases()
	for _, base := range plainBases() {
		for _, f := range plainFaults(t) {
			trees = append(trees, f.in(base))
		}
	}
	for _, n := range slices.Concat(trees, shapedTrees(t), goodTrees(), badTrees()[:60], noMaps()) {
		arg := roomy(n)
		was := wholeRoom(arg)
		first := readAll(arg)
		wantTree(t, "what was handed in", wholeRoom(arg), was)
		if again := readAll(n); !reflect.DeepEqual(first, again) {
			t.Errorf("of %s: %.300s, then %.300s", brief(n), fmt.Sprint(first), fmt.Sprint(again))
		}
	}
}

// The share is taken from among the metrics, but not from the list that was handed in, and what stands behind it is not moved there.
func TestPlainTreeOfListsThatShareRoom(t *testing.T) {
	whole := func() []metric {
		return []metric{metricOf("a", 1, 1), metricOf("b", 2, 2), cpuOf(10), metricOf("d", 3, 3), metricOf("e", 1, 1), cpuOf(20)}
	}
	for low := range 3 {
		for high := 3; high <= 5 && high-low <= 4; high++ {
			list := whole()
			o := withMetrics(webOrder(), list[low:high]...)
			first := impl.PlainTree(o)
			if !reflect.DeepEqual(list, whole()) {
				t.Fatalf("what was handed in is %+v", list)
			}
			wantTree(t, "PlainTree", first, plainModel(withMetrics(webOrder(), whole()[low:high]...)))
			kept := snapshot(first)
			clear(list)
			wantTree(t, "what was handed in written into", first, kept)
		}
	}
	notes := keyedNotes("a", "b", "c", "d", "e", "f", "g", "h")
	o := withNotes(webOrder(), notes[:4]...)
	impl.PlainTree(o)
	if !reflect.DeepEqual(notes, keyedNotes("a", "b", "c", "d", "e", "f", "g", "h")) {
		t.Errorf("what was handed in is %+v", notes)
	}
}

// Of what is no tree there is an answer, too, and it is the same each time.
func TestPlainOfWhatIsNoTree(t *testing.T) {
	for i, n := range badTrees() {
		trees := []node{n, listNode(n), mapNode([]string{"name"}, n), mapNode([]string{"kind"}, n)}
		for _, key := range []string{"high", "kind", "low", "metrics", "name", "notes", "pace", "share", "target"} {
			trees = append(trees, impl.Set(leastPlain(), key, n), impl.Set(leastPlain(), key, listNode(n)), impl.Set(leastPlain(), key, mapNode([]string{"quay/metrics"}, n)))
		}
		for _, tree := range trees {
			first, way := impl.PlainOf(tree)
			if again, other := impl.PlainOf(tree); other != way || !reflect.DeepEqual(first, again) {
				t.Errorf("of tree %d: %.300s, %q, then %.300s, %q", i, fmt.Sprint(first), way, fmt.Sprint(again), other)
			}
			if way != "" && !impl.OrderSame(first, order{}) {
				t.Errorf("of tree %d: %.300s beside the way %q", i, fmt.Sprint(first), way)
			}
			wantShaped(t, tree)
		}
	}
}

// Maps whose Keys do not ascend are maps, and of a Kid only what its kind names is looked at.
func TestPlainOfMapsOutOfOrder(t *testing.T) {
	turned := func(n node) node {
		n = snapshot(n)
		slices.Reverse(n.Keys)
		slices.Reverse(n.Kids)
		return n
	}
	wantPlainOrder(t, turned(plainModel(webOrder())), webOrder())
	one := withNotes(webOrder(), noteOf("r", "x"))
	wantPlainOrder(t, putAt(plainModel(one), turned(model(plainModel(one))["notes"]), "notes"), one)
	metrics, pace, bad := textNode(metricsWord(cpuOf(5))), textNode(paceWord(webOrder().Pace)), textNode("x")
	notes := func(keys []string, kids ...node) node { return putAt(leastPlain(), mapNode(keys, kids...), "notes") }
	wantPlainOrder(t, notes([]string{"quay/pace", "quay/metrics"}, pace, metrics), withPace(withMetrics(leastOrder(), cpuOf(5)), webOrder().Pace))
	// Metrics count ahead of the Pace, and both ahead of the others, not as they stand.
	wantPlainWay(t, notes([]string{"quay/pace", "quay/metrics"}, bad, bad), "notes/quay/metrics")
	wantPlainWay(t, notes([]string{"quay/a", "quay/pace", "quay/metrics"}, bad, bad, metrics), "notes/quay/pace")
	wantPlainWay(t, notes([]string{"quay/z", "quay/pace", "quay/a", "quay/metrics"}, bad, pace, bad, metrics), "notes/quay/z")
	// With both taken away the others stand as they stood: that is no order.
	wantPlainWay(t, notes([]string{"b", "quay/pace", "a", "quay/metrics"}, textNode(""), pace, textNode(""), metrics), ".")
	wantPlainWay(t, mapNode([]string{"z", "pace", "metrics", "kind"}, node{}, node{}, node{}, node{}), "metrics")
	wantPlainWay(t, mapNode([]string{"target", "share", "name", "kind"}, node{}, node{}, node{}, node{}), "high")
	more := plainModel(webOrder())
	for i := range more.Kids {
		more.Kids[i].N += more.Kids[i].Kind / impl.NdText
	}
	wantPlainOrder(t, more, webOrder())
}

// Of alike Keys the first one counts; a second note of kept metrics is another note that begins with `quay/`.
func TestPlainOfKeysTwice(t *testing.T) {
	kept, other, bad := textNode(metricsWord(cpuOf(5))), textNode("["+keptMean+"]"), textNode("x")
	for _, kids := range [][]node{{kept, kept}, {kept, other}, {kept, bad}, {bad, kept}, {bad, bad}, {kept, kept, kept}} {
		keys := slices.Repeat([]string{"quay/metrics"}, len(kids))
		wantPlainWay(t, putAt(leastPlain(), mapNode(keys, kids...), "notes"), "notes/quay/metrics")
	}
	two := mapNode([]string{"high", "high", "kind", "kind", "name", "share", "share", "target"}, intNode(3), intNode(0), textNode("plain"), textNode("full"), textNode("a"), intNode(2), intNode(0), textNode("b"))
	wantPlainOrder(t, two, withMetrics(leastOrder(), cpuOf(20)))
	if _, n, way := impl.Shaped(two); n != 2 || way != "" {
		t.Errorf("of two kinds: %d, %q", n, way)
	}
}

// A map that has not as many Keys as Kids is none, wherever it stands.
func TestPlainOfNoMaps(t *testing.T) {
	for _, n := range noMaps() {
		wantPlainWay(t, n, ".")
		wantPlainWaysWith(t, "notes", n, "notes")
		wantPlainWaysWith(t, "metrics", n, "metrics")
		wantPlainWaysWith(t, "pace", n, "pace")
	}
	kept := textNode(metricsWord(cpuOf(5)))
	wantPlainWaysWith(t, "notes", mapNode([]string{"quay/metrics"}, kept, kept), "notes")
	wantPlainWaysWith(t, "notes", mapNode([]string{"a", "quay/metrics"}, kept), "notes")
	whole := plainModel(webOrder())
	wantPlainWay(t, mapNode(whole.Keys, whole.Kids[:6]...), ".")
	wantPlainWay(t, mapNode(whole.Keys[:6], whole.Kids...), ".")
}

// Kids that stand within themselves have no end; what is asked of them has one.
func TestPlainOfEndlessTrees(t *testing.T) {
	kids := make([]node, 1)
	kids[0] = node{Kind: impl.NdMap, Keys: []string{"quay/metrics"}, Kids: kids}
	endless := kids[0]
	wantPlainWay(t, endless, "quay/metrics")
	shapedWay(t, endless, "kind")
	kind := make([]node, 1)
	kind[0] = node{Kind: impl.NdMap, Keys: []string{"kind"}, Kids: kind}
	wantPlainWay(t, kind[0], "high")
	shapedWay(t, kind[0], "kind")
	for _, key := range []string{"high", "kind", "low", "metrics", "name", "pace", "share", "target"} {
		n := leastPlain()
		at := slices.Index(n.Keys, key)
		if at < 0 {
			n.Keys, n.Kids, at = append(n.Keys, key), append(n.Kids, node{}), len(n.Keys)
		}
		n.Kids[at] = endless
		wantPlainWay(t, n, key)
		shapedWay(t, n, key)
	}
	n := leastPlain()
	n.Keys, n.Kids = append(n.Keys, "notes"), append(n.Kids, endless)
	wantPlainWay(t, n, "notes/quay/metrics")
	shapedWay(t, n, "notes/quay/metrics")
}
