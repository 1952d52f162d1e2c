package tests

import (
	"fmt"
	"reflect"
	"slices"
	"sync"
	"testing"

	"loop.example/g00465/impl"
)

// readAll is what all of them answer of a tree.
func readAll(n node) []any {
	metrics, a := impl.MetricsOf(n)
	pace, b := impl.PaceOf(n)
	notes, c := impl.NotesOf(n)
	o, d := impl.FullOf(n)
	p, e := impl.MidOf(n)
	q, f := impl.PlainOf(n)
	s, shape, g := impl.Shaped(n)
	return []any{append([]metric{}, metrics...), a, pace, b, append([]note{}, notes...), c, anew(o), d, anew(p), e, anew(q), f, anew(s), shape, g}
}

// shapedTrees are trees that are read, or nearly so, whole and in parts.
func shapedTrees(t *testing.T) []node {
	t.Helper()
	var out []node
	turned := impl.FullTree(fullOrder())
	slices.Reverse(turned.Kids[3].Kids)
	for _, n := range []node{impl.FullTree(webOrder()), impl.FullTree(fullOrder()), leastFull(t), turned, impl.MidTree(webOrder()), impl.MidTree(fullOrder()), impl.PlainTree(webOrder()), impl.PlainTree(fullOrder())} {
		out = append(out, n)
		out = append(out, n.Kids...)
		for _, key := range n.Keys {
			out = append(out, impl.Unset(n, key), impl.Set(n, key, node{}))
		}
	}
	return out
}

func TestReadingWritesIntoNothing(t *testing.T) {
	for i, n := range slices.Concat(shapedTrees(t), goodTrees(), badTrees()[:60], noMaps()) {
		arg := roomy(n)
		was := wholeRoom(arg)
		first := readAll(arg)
		wantTree(t, fmt.Sprintf("tree %d, what was handed in", i), wholeRoom(arg), was)
		// What stands in spare room counts for nothing.
		if again := readAll(n); !reflect.DeepEqual(again, first) {
			t.Errorf("of tree %d: %.300s, then %.300s", i, fmt.Sprint(first), fmt.Sprint(again))
		}
	}
}

// Of what is no tree there is an answer, too, and it is the same each time.
func TestReadingWhatIsNoTree(t *testing.T) {
	for i, n := range badTrees() {
		for _, tree := range append(fullWith(t, "metrics", listNode(n)), n, listNode(n), mapNode([]string{"name"}, n)) {
			first := readAll(tree)
			if again := readAll(tree); !reflect.DeepEqual(again, first) {
				t.Errorf("of tree %d: %.300s, then %.300s", i, fmt.Sprint(first), fmt.Sprint(again))
			}
		}
	}
}

func TestReadListsAreNewMemory(t *testing.T) {
	tree := impl.FullTree(fullOrder())
	metrics, notes := tree.Kids[3], tree.Kids[5]
	for range 2 {
		o, _ := impl.FullOf(tree)
		m, _ := impl.MetricsOf(metrics)
		n, _ := impl.NotesOf(notes)
		if !impl.OrderSame(o, fullOrder()) || !slices.Equal(m, fullOrder().Metrics) || !slices.Equal(n, fullOrder().Notes) {
			t.Fatalf("read: %+v, %+v, %+v", o, m, n)
		}
		// What is written into one answer is not to be seen in the next one.
		for _, list := range [][]metric{o.Metrics, m} {
			for i := range list[:cap(list)] {
				list[:cap(list)][i] = metricOf("scribbled", 9, 9)
			}
		}
		for _, list := range [][]note{o.Notes, n} {
			for i := range list[:cap(list)] {
				list[:cap(list)][i] = noteOf("scribbled", "9")
			}
		}
	}
	wantTree(t, "what was handed in", tree, impl.FullTree(fullOrder()))
}

func TestShapedTreesAreNewMemory(t *testing.T) {
	calls := map[string]func(o order) node{
		"FullTree":   impl.FullTree,
		"MidTree":    impl.MidTree,
		"PlainTree":  impl.PlainTree,
		"Shape of 0": func(o order) node { return impl.Shape(o, 0) },
		"Shape of 1": func(o order) node { return impl.Shape(o, 1) },
		"Shape of 2": func(o order) node { return impl.Shape(o, 2) },
		"MetricTree": func(o order) node { return impl.MetricTree(o.Metrics[0]) },
		"PaceTree":   func(o order) node { return impl.PaceTree(o.Pace) },
	}
	shared := withMetrics(fullOrder(), metricOf("a", 1, 1), metricOf("b", 2, 2), cpuOf(10), metricOf("d", 3, 3))
	for what, call := range calls {
		for _, o := range []order{fullOrder(), shared, webOrder()} {
			treesAreNewMemory(t, what, call, o)
		}
	}
}

func treesAreNewMemory(t *testing.T, what string, call func(o order) node, o order) {
	t.Helper()
	arg := roomyOrder(o)
	was := wholeOrder(arg)
	first, second := call(arg), call(arg)
	ownMemory(t, what, first, second)
	kept := snapshot(first)
	scribble(second)
	wantTree(t, what+", another answer written into", first, kept)
	wantTree(t, what+" again", call(arg), kept)
	if !reflect.DeepEqual(wholeOrder(arg), was) {
		t.Errorf("%s: what was handed in is %+v, it was %+v", what, wholeOrder(arg), was)
	}
	for i := range arg.Metrics {
		arg.Metrics[i] = metric{}
	}
	for i := range arg.Notes {
		arg.Notes[i] = note{}
	}
	wantTree(t, what+", what was handed in written into", first, kept)
}

// Maps whose Keys do not ascend are maps: ways are told by the Keys as they ascend, not as they stand.
func TestReadingMapsOutOfOrder(t *testing.T) {
	tree := impl.FullTree(webOrder())
	slices.Reverse(tree.Keys)
	slices.Reverse(tree.Kids)
	wantFull(t, tree, webOrder())
	wantFullWay(t, mapNode([]string{"z", "kind", "b", "a"}, node{}, node{}, node{}, node{}), "a")
	wantFullWay(t, mapNode([]string{"name", "kind"}, node{}, node{}), "high")
	wantFullWay(t, mapNode([]string{"target", "name", "kind", "high"}, node{}, node{}, node{}, node{}), "high")
	wantPace(t, mapNode([]string{"up", "down"}, intNode(4), intNode(5)), impl.Pace{Up: 4, Down: 5, DownSpan: 300})
	wantPaceWay(t, mapNode([]string{"up", "down"}, node{}, node{}), "down")
	wantPaceWay(t, mapNode([]string{"y", "up", "x"}, node{}, node{}, node{}), "x")
	wantMetrics(t, listNode(mapNode([]string{"name", "kind", "goal"}, textNode("a"), textNode("mean"), textNode("1"))), metricOf("a", 2, 1000))
	wantMetricsWay(t, listNode(mapNode([]string{"name", "kind", "goal"}, textNode("A"), textNode("x"), textNode("1"))), "0/kind")
	wantNotesWay(t, mapNode([]string{"c", "b", "a"}, intNode(1), intNode(2), textNode("x")), "b")
	notes := mapNode([]string{"b", "a"}, textNode("1"), textNode("2"))
	wantNotes(t, notes, noteOf("b", "1"), noteOf("a", "2"))
	wantFullWay(t, impl.Set(leastFull(t), "notes", notes), ".")
}

// A map that has not as many Keys as Kids is none, wherever it stands.
func TestReadingNoMaps(t *testing.T) {
	for _, n := range noMaps() {
		wantFullWay(t, n, ".")
		wantPaceWay(t, n, ".")
		wantNotesWay(t, n, ".")
		wantMetricsWay(t, listNode(impl.MetricTree(metricOf("a", 1, 1)), n), "1")
		wantFullWaysWith(t, "pace", n, "pace")
		wantFullWaysWith(t, "notes", n, "notes")
		if n.Kind != impl.NdList {
			wantFullWaysWith(t, "metrics", n, "metrics")
		}
	}
	whole := impl.PaceTree(impl.PaceNew())
	wantPaceWay(t, mapNode(whole.Keys, whole.Kids[:3]...), ".")
	wantPaceWay(t, mapNode(whole.Keys[:3], whole.Kids...), ".")
}

// Kids that stand within themselves have no end; what is asked of them has one.
func TestReadingEndlessTrees(t *testing.T) {
	kids := make([]node, 1)
	kids[0] = listNode(kids...)
	kids[0].Kids = kids
	endless := node{Kind: impl.NdList, Kids: kids}
	if impl.TreeOk(endless) {
		t.Fatal("it has an end")
	}
	wantMetricsWay(t, endless, "0")
	wantPaceWay(t, endless, ".")
	wantNotesWay(t, node{Kind: impl.NdMap, Keys: []string{"a"}, Kids: kids}, "a")
	wantPaceWay(t, node{Kind: impl.NdMap, Keys: []string{"up"}, Kids: kids}, "up")
	wantFullWay(t, node{Kind: impl.NdMap, Keys: []string{"high"}, Kids: kids}, "kind")
	for _, key := range []string{"high", "kind", "low", "name", "notes", "pace", "target", "x"} {
		n := leastFull(t)
		n.Keys, n.Kids = append(n.Keys, "low", "notes", "pace", "x"), append(n.Kids, intNode(1), mapNode(nil), mapNode(nil), node{})
		if key != "x" {
			n.Keys, n.Kids = n.Keys[:7], n.Kids[:7]
		}
		n.Kids[slices.Index(n.Keys, key)] = endless
		wantFullWay(t, n, key)
	}
}

// What is made once is made for all who ask, also for those who ask at the same time.
func TestReadingAtTheSameTime(t *testing.T) {
	for _, tree := range []node{impl.FullTree(webOrder()), impl.MidTree(webOrder()), impl.PlainTree(webOrder())} {
		want := readAll(tree)
		got := make([][]any, 32)
		var all sync.WaitGroup
		for i := range got {
			all.Go(func() {
				for range 200 {
					got[i] = readAll(tree)
				}
			})
		}
		all.Wait()
		for i := range got {
			if !reflect.DeepEqual(got[i], want) {
				t.Errorf("%d: %.300s", i, fmt.Sprint(got[i]))
			}
		}
	}
}
