package tests

import (
	"fmt"
	"math"
	"math/rand"
	"reflect"
	"testing"

	"loop.example/g00465/impl"
)

// shapedOf says by the test's own means what Shaped is to tell.
func shapedOf(n node) (order, int, string) {
	if n.Kind != impl.NdMap || len(n.Keys) != len(n.Kids) {
		return order{}, 0, "."
	}
	kind, in := node{}, false
	for i := len(n.Keys) - 1; i >= 0; i-- {
		if n.Keys[i] == "kind" {
			kind, in = n.Kids[i], true
		}
	}
	reads := []func(node) (order, string){impl.FullOf, impl.MidOf, impl.PlainOf}
	for shape, name := range []string{"full", "middle", "plain"} {
		if in && kind.Kind == impl.NdText && kind.S == name {
			o, way := reads[shape](n)
			if way != "" {
				shape = 0
			}
			return o, shape, way
		}
	}
	return order{}, 0, "kind"
}

// wantShaped asks for what the one of the three tells that the kind names.
func wantShaped(t *testing.T, n node) {
	t.Helper()
	o, shape, way := shapedOf(n)
	if got, number, told := impl.Shaped(n); number != shape || told != way || !impl.OrderSame(got, o) {
		t.Errorf("Shaped(%s) = %+v, %d, %.80q, want %+v, %d, %.80q", brief(n), got, number, told, o, shape, way)
	}
}

func shapedWay(t *testing.T, n node, want string) {
	t.Helper()
	if got, number, way := impl.Shaped(n); number != 0 || way != want || !impl.OrderSame(got, order{}) {
		t.Errorf("Shaped(%s) = %+v, %d, %.80q, want zero, 0 and %.80q", brief(n), got, number, way, want)
	}
}

func shapedOrder(t *testing.T, n node, want order, shape int) {
	t.Helper()
	if got, number, way := impl.Shaped(n); number != shape || way != "" || !impl.OrderSame(got, want) {
		t.Fatalf("Shaped(%s) = %+v, %d, %.80q, want %+v, %d", brief(n), got, number, way, want, shape)
	}
}

// shapeModels are the three shapes of an order.
func shapeModels(o order) []node { return []node{impl.FullTree(o), midModel(o), plainModel(o)} }

// manyShaped are orders with and without each of the things that a shape tells otherwise.
func manyShaped() []order {
	var out []order
	for _, list := range [][]metric{{}, {cpuOf(10)}, {cpuOf(505)}, {metricOf("cpu", 2, 500)}, webOrder().Metrics, fullOrder().Metrics, {metricOf("a", 3, 1), cpuOf(10000), metricOf("d", 1, 10)}} {
		for _, p := range []impl.Pace{newPace, webOrder().Pace, {}} {
			for _, notes := range [][]note{{}, webOrder().Notes, fullOrder().Notes} {
				out = append(out, withNotes(withMetrics(withPace(webOrder(), p), list...), notes...))
			}
		}
	}
	return append(out, leastOrder())
}

func TestShape(t *testing.T) {
	for _, o := range manyShaped() {
		for n, want := range shapeModels(o) {
			tree := impl.Shape(o, n)
			wantTree(t, fmt.Sprintf("Shape(%+v, %d)", o, n), tree, want)
			shapedOrder(t, tree, o, n)
		}
		for _, n := range []int{math.MinInt, -1000, -2, -1, 3, 4, 5, 100, 256, 1 << 32, math.MaxInt} {
			if got := impl.Shape(o, n); !reflect.DeepEqual(tidy(got), node{}) {
				t.Errorf("Shape(%+v, %d) = %s, want zero", o, n, brief(got))
			}
		}
	}
	for n := -2; n < 5; n++ {
		if got := impl.Shape(order{}, n); !reflect.DeepEqual(tidy(got), node{}) {
			t.Errorf("Shape of no order, %d: %s, want zero", n, brief(got))
		}
	}
}

// Through any shapes an order comes back as it was.
func TestOrdersThroughAnyShapes(t *testing.T) {
	r := rand.New(rand.NewSource(90))
	orders := manyShaped()
	for len(orders) < 1500 {
		if o := anyShared(r); orderFits(o) {
			orders = append(orders, o)
		}
	}
	for _, o := range orders {
		now := anew(o)
		for i := range 6 {
			n := r.Intn(3)
			tree := impl.Shape(now, n)
			wantTree(t, fmt.Sprintf("step %d of %+v, shape %d", i, o, n), tree, shapeModels(o)[n])
			shapedOrder(t, tree, o, n)
			now, _, _ = impl.Shaped(tree)
		}
	}
}

// The same through what is written, in braces and in lines.
func TestOrdersThroughTextsOfAnyShape(t *testing.T) {
	r := rand.New(rand.NewSource(91))
	for _, o := range manyShaped() {
		for i := range 6 {
			n := r.Intn(3)
			tree := impl.Shape(o, n)
			read, place := impl.Unbraced(impl.Braced(tree))
			if i%2 == 1 {
				read, place = impl.Outline(impl.Indented(tree))
			}
			if place != -1 {
				t.Fatalf("Shape(%+v, %d) is not read: %d", o, n, place)
			}
			shapedOrder(t, read, o, n)
		}
	}
}

func TestShapedOfNoShape(t *testing.T) {
	for _, n := range append(noMaps(), otherKinds(impl.NdMap)...) {
		shapedWay(t, n, ".")
	}
	for _, n := range disguised(plainModel(webOrder())) {
		shapedWay(t, n, ".")
	}
	whole := plainModel(webOrder())
	shapedWay(t, mapNode(whole.Keys, whole.Kids[:6]...), ".")
	shapedWay(t, mapNode(whole.Keys[:6], whole.Kids...), ".")
	shapedWay(t, mapNode(nil), "kind")
	shapedWay(t, mapNode([]string{"a"}, intNode(1)), "kind")
	shapedWay(t, mapNode([]string{"", "Kind", "kinds", "zz"}, node{}, textNode("full"), textNode("full"), node{}), "kind")
	for _, o := range []order{webOrder(), leastOrder()} {
		for _, tree := range shapeModels(o) {
			shapedWay(t, cutAt(tree, "kind"), "kind")
			for _, x := range append(otherKinds(impl.NdText), disguised(model(tree)["kind"])...) {
				shapedWay(t, putAt(tree, x, "kind"), "kind")
				shapedWay(t, cutAt(putAt(putAt(tree, x, "kind"), node{}, "A"), "high"), "kind")
			}
			for _, s := range []string{"", "Full", "full ", "mid", "Middle", "middles", "plai", "PLAIN", "plain\x00", "none", "share", "0", "1", "2"} {
				shapedWay(t, putAt(tree, textNode(s), "kind"), "kind")
				// Ahead of all else, also of a Key that is none of these.
				shapedWay(t, putAt(putAt(tree, textNode(s), "kind"), node{}, "A"), "kind")
				shapedWay(t, cutAt(putAt(tree, textNode(s), "kind"), "high"), "kind")
			}
		}
	}
}

// By the kind that is told, whatever else the tree looks like.
func TestShapedOfTheKindOfAnotherShape(t *testing.T) {
	shapes := shapeModels(webOrder())
	// Only FullOf leaves it to OrderOk what a note may be called.
	for i, rows := range [][]string{{"", "pace", "metrics"}, {".", "", "metrics"}, {"share", "share", ""}} {
		for n, want := range rows {
			tree := putAt(shapes[i], textNode([]string{"full", "middle", "plain"}[n]), "kind")
			if want != "" {
				shapedWay(t, tree, want)
			} else {
				shapedOrder(t, tree, webOrder(), n)
			}
		}
	}
	for n, name := range []string{"full", "middle", "plain"} {
		least := putAt(leastPlain(), textNode(name), "kind")
		shapedOrder(t, least, leastOrder(), n)
		shapedWay(t, putAt(least, intNode(0), "high"), "high")
		shapedWay(t, putAt(least, intNode(4), "low"), ".")
		shapedWay(t, putAt(least, node{}, "A"), "A")
		shapedWay(t, cutAt(least, "target"), "target")
	}
	shapedWay(t, putAt(leastPlain(), textNode("[]"), "notes", "quay/metrics"), "notes/quay/metrics")
}

func TestShapedOfSpoiltTrees(t *testing.T) {
	r := rand.New(rand.NewSource(92))
	lists, paces, orders := keptLists(), keptTexts(), manyShaped()
	told := map[string]int{}
	for range 20000 {
		n := shapeModels(orders[r.Intn(len(orders))])[r.Intn(3)]
		for range r.Intn(4) {
			n = spoiltPlain(r, n, lists, paces)
		}
		if r.Intn(8) == 0 && n.Kind == impl.NdMap {
			n = putAt(n, textNode([]string{"full", "middle", "plain", "none"}[r.Intn(4)]), "kind")
		}
		wantShaped(t, n)
		if t.Failed() {
			t.FailNow()
		}
		_, shape, way := impl.Shaped(n)
		told[fmt.Sprintf("%d %v", shape, way == "")]++
		told[way]++
	}
	for _, what := range []string{"0 true", "1 true", "2 true", "0 false", ".", "kind", "high", "metrics", "share", "pace", "notes/quay/metrics", "notes/quay/pace"} {
		if told[what] < 50 {
			t.Errorf("%q was told %d times", what, told[what])
		}
	}
}
