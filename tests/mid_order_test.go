package tests

import (
	"slices"
	"strings"
	"testing"

	"loop.example/g00465/impl"
)

func wantMid(t *testing.T, tree node, want order) {
	t.Helper()
	if got, way := impl.MidOf(tree); way != "" || !impl.OrderSame(got, want) {
		t.Errorf("MidOf(%s) = %+v, %q, want %+v", brief(tree), got, way, want)
	}
}

func wantMidWay(t *testing.T, tree node, want string) {
	t.Helper()
	if got, way := impl.MidOf(tree); way != want || !impl.OrderSame(got, order{}) {
		t.Errorf("MidOf(%s) = %+v, %.80q, want zero and %.80q", brief(tree), got, way, want)
	}
}

// leastMid is the shortest map that is an order.
func leastMid() node {
	return mapNode([]string{"high", "kind", "name", "target"}, intNode(3), textNode("middle"), textNode("a"), textNode("b"))
}

// midBases are the trees that are spoilt: with and without notes, with and without a kept Pace.
func midBases() []node {
	return []node{midModel(webOrder()), midModel(fullOrder()), midModel(withPace(webOrder(), newPace)), midModel(withNotes(webOrder())), leastMid()}
}

// wantMidWaysWith asks for each of these with x put there.
func wantMidWaysWith(t *testing.T, want string, x node, path ...string) {
	t.Helper()
	for _, base := range midBases() {
		wantMidWay(t, putAt(base, x, path...), want)
	}
}

// Every choice of the Keys that may be missing.
func TestMidOfWhatIsNotThere(t *testing.T) {
	for _, o := range []order{webOrder(), withPace(fullOrder(), newPace)} {
		for some := range 8 {
			tree, want := midModel(o), o
			if some&1 == 0 {
				tree, want.Low = cutAt(tree, "low"), 1
			}
			if some&2 == 0 {
				tree, want.Metrics = cutAt(tree, "metrics"), nil
			}
			// Without notes there is no Pace that is kept.
			if some&4 == 0 {
				tree, want.Notes, want.Pace = cutAt(tree, "notes"), nil, newPace
			}
			wantMid(t, tree, want)
		}
	}
	wantMid(t, leastMid(), leastOrder())
	wantMid(t, putAt(leastMid(), mapNode(nil), "notes"), leastOrder())
	wantMid(t, cutAt(midModel(webOrder()), "notes", "quay/pace"), withPace(webOrder(), newPace))
}

// Every choice of the Keys that must be there: the first missing one by its bytes is told, whatever else does not fit.
func TestMidOfWhatMustBeThere(t *testing.T) {
	for some := 1; some < 16; some++ {
		for _, tree := range midBases() {
			first := ""
			for i, key := range []string{"high", "kind", "name", "target"} {
				if some>>i&1 == 1 {
					tree = cutAt(tree, key)
					if first == "" {
						first = key
					}
				}
			}
			wantMidWay(t, tree, first)
			wantMidWay(t, putAt(tree, textNode("x"), "notes", "quay/pace"), first)
			wantMidWay(t, putAt(tree, textNode("x"), "notes", "quay/x"), first)
			for _, key := range tree.Keys {
				wantMidWay(t, putAt(tree, flagNode(1), key), first)
			}
		}
	}
	wantMidWay(t, mapNode(nil), "high")
}

// A Key that is none of these comes ahead of all else, the first one by its bytes; `pace` is one of them, whatever stands there.
func TestMidOfStrangeKeys(t *testing.T) {
	strange := []string{"", ".", "A", "High", "a", "kinds", "notes/a", "oz", "pace", "paces", "quay/pace", "share", "up", "zz", "~"}
	for i, key := range strange {
		for _, x := range []node{{}, intNode(1), textNode("middle"), mapNode(nil), impl.PaceTree(newPace), impl.PaceTree(webOrder().Pace)} {
			wantMidWaysWith(t, key, x, key)
			wantMidWay(t, mapNode([]string{key}, x), key)
		}
		for _, other := range strange[i+1:] {
			for _, base := range midBases() {
				two := putAt(putAt(base, node{}, other), node{}, key)
				wantMidWay(t, two, key)
				wantMidWay(t, cutAt(two, "high"), key)
				wantMidWay(t, putAt(two, node{}, "high"), key)
				wantMidWay(t, putAt(two, textNode(""), "notes", "quay/pace"), key)
			}
		}
	}
	wantMidWay(t, impl.FullTree(webOrder()), "pace")
	wantMidWay(t, impl.FullTree(leastOrder()), "pace")
}

func TestMidOfOtherShapes(t *testing.T) {
	for _, s := range []string{"", "Middle", "MIDDLE", "middle ", " middle", "middl", "middles", "mid", "full", "plain", "none", "share", "middle\x00"} {
		wantMidWaysWith(t, "kind", textNode(s), "kind")
	}
	for _, n := range append(otherKinds(impl.NdText), disguised(textNode("middle"))...) {
		wantMidWaysWith(t, "kind", n, "kind")
	}
	// The other way round, too.
	wantFullWay(t, leastMid(), "kind")
	wantFullWay(t, midModel(withPace(webOrder(), newPace)), "kind")
	wantMidWay(t, leastFull(t), "kind")
}

func TestMidOfValues(t *testing.T) {
	for n, ok := range edges(1, 1000) {
		want := leastOrder()
		want.Low, want.High = 1, n
		low := putAt(putAt(leastMid(), intNode(1000), "high"), intNode(n), "low")
		if ok {
			wantMid(t, putAt(leastMid(), intNode(n), "high"), want)
			want.Low, want.High = n, 1000
			wantMid(t, low, want)
		} else {
			wantMidWaysWith(t, "high", intNode(n), "high")
			wantMidWay(t, low, "low")
		}
	}
	for _, s := range goodNames() {
		named, aimed := leastOrder(), leastOrder()
		named.Name, aimed.Target = s, s
		wantMid(t, putAt(leastMid(), textNode(s), "name"), named)
		wantMid(t, putAt(leastMid(), textNode(s), "target"), aimed)
	}
	for _, s := range badNames() {
		wantMidWaysWith(t, "name", textNode(s), "name")
		wantMidWaysWith(t, "target", textNode(s), "target")
	}
}

// At each Key all that is of another kind, and at the root.
func TestMidOfOtherKinds(t *testing.T) {
	kinds := map[string]int{"high": impl.NdInt, "kind": impl.NdText, "low": impl.NdInt, "metrics": impl.NdList, "name": impl.NdText, "notes": impl.NdMap, "target": impl.NdText}
	tree := midModel(webOrder())
	for i, key := range tree.Keys {
		for _, n := range append(otherKinds(kinds[key]), disguised(tree.Kids[i])...) {
			wantMidWaysWith(t, key, n, key)
		}
	}
	for _, n := range append(otherKinds(impl.NdMap), disguised(tree)...) {
		wantMidWay(t, n, ".")
	}
	// A note that is no text does not fit as a note; that it would keep a Pace counts for nothing.
	for _, key := range []string{"a", "quay/pace", "quay/x"} {
		for _, n := range append(otherKinds(impl.NdText), disguised(textNode(paceWord(webOrder().Pace)))...) {
			wantMidWaysWith(t, "notes/"+key, n, "notes", key)
		}
	}
	wantMidWaysWith(t, "notes/quay/pace", impl.PaceTree(webOrder().Pace), "notes", "quay/pace")
}

func TestMidOfWaysWithin(t *testing.T) {
	for s, want := range map[string]string{
		`{}`: "metrics", `[1]`: "metrics/0", `[{}]`: "metrics/0/goal", `[{"x":1}]`: "metrics/0/x", `[{"":1}]`: "metrics/0/", `[{"goal":"1","kind":"none","name":"a"}]`: "metrics/0/kind",
		`[{"goal":"1","kind":"mean","name":"a"},{"goal":"2","kind":"mean","name":"a"}]`: "metrics/1",
	} {
		wantMidWaysWith(t, want, written(t, s), "metrics")
	}
	for s, want := range map[string]string{
		`[]`: "notes", `{"a":1}`: "notes/a", `{"a b":"x"}`: "notes/a b", `{"null":"x"}`: "notes/null", `{"a":"x","b":[]}`: "notes/b", `{"":"x"}`: "notes/", `{".":"x"}`: "notes",
		`{"quay/pace":1}`: "notes/quay/pace", `{"quay/ ":"x"}`: "notes/quay/ ", `{"quay/a":"x","quay/pace":"x","r":1}`: "notes/r", `{"quay/a":"x","quay/pace":1}`: "notes/quay/pace", `{"a":1,"quay/pace":1}`: "notes/a", `{"quay/pace":1,"r":1}`: "notes/quay/pace", `{"quay/pace":"{}","r s":""}`: "notes/r s",
	} {
		wantMidWaysWith(t, want, written(t, s), "notes")
	}
}

// By Keys, in order; metrics are ordered, goals are read in each of their writings.
func TestMidOfReadsLoosely(t *testing.T) {
	tree := written(t, `{"target":"pool","name":"web","notes":{"quay/pace":"{\"down\":4,\"downspan\":\"5m\",\"up\":0,\"upspan\":\"1m\"}","b":"","a":"1"},"metrics":[{"name":"hits","kind":"mean","goal":"1000m"},{"name":"cpu","kind":"share","goal":"1"}],"kind":"middle","high":5}`)
	want := order{Name: "web", Target: "pool", Low: 1, High: 5, Pace: impl.Pace{Down: 4, UpSpan: 60, DownSpan: 300}}
	want.Metrics = []metric{metricOf("cpu", impl.MtShare, 1000), metricOf("hits", impl.MtMean, 1000)}
	want.Notes = []note{noteOf("a", "1"), noteOf("b", "")}
	wantMid(t, tree, want)
}

// fault is one thing that is wrong: x stands there, or nothing where cut.
type fault struct {
	way  string
	path []string
	cut  bool
	x    node
}

func (f fault) in(n node) node {
	if f.cut {
		return cutAt(n, f.path...)
	}
	return putAt(n, f.x, f.path...)
}

// beside is whether both can be wrong at once: neither is within the other.
func (f fault) beside(g fault) bool {
	short := min(len(f.path), len(g.path))
	return !slices.Equal(f.path[:short], g.path[:short])
}

// midFaults are in the order in which they count.
func midFaults(t *testing.T) []fault {
	t.Helper()
	put := func(way string, x string, path ...string) fault {
		return fault{way: way, path: path, x: written(t, x)}
	}
	cut := func(key string) fault { return fault{way: key, path: []string{key}, cut: true} }
	five := `{"a":"","b":"","c":"","d":"","e":""}`
	return []fault{
		put("", `1`, ""), put("A", `1`, "A"), put("m", `1`, "m"), put("pace", `{}`, "pace"), put("quay/pace", `""`, "quay/pace"), put("share", `1`, "share"), put("zz", `1`, "zz"),
		cut("high"), cut("kind"), cut("name"), cut("target"),
		put("high", `0`, "high"), put("kind", `"full"`, "kind"), put("low", `0`, "low"), put("metrics", `{}`, "metrics"), put("metrics/0", `[0]`, "metrics"), put("metrics/1/kind", `[{"goal":"1","kind":"mean","name":"a"},{"goal":"1","kind":"x","name":"a"}]`, "metrics"), put("name", `"A"`, "name"),
		put("notes", `[]`, "notes"), put("notes/a b", `""`, "notes", "a b"), put("notes/b", `1`, "notes", "b"), put("notes/quay/a", `1`, "notes", "quay/a"), put("notes/quay/pace", `1`, "notes", "quay/pace"), put("notes/quay/z", `1`, "notes", "quay/z"), put("notes/~", `""`, "notes", "~"), put("target", `1`, "target"),
		put("notes/quay/pace", `"{}"`, "notes", "quay/pace"), put("notes/quay/pace", `"x"`, "notes", "quay/pace"),
		put("notes/quay/", `""`, "notes", "quay/"), put("notes/quay/a", `"x"`, "notes", "quay/a"), put("notes/quay/metrics", `"[]"`, "notes", "quay/metrics"), put("notes/quay/pace/x", `""`, "notes", "quay/pace/x"), put("notes/quay/z", `""`, "notes", "quay/z"),
		put(".", `1000`, "low"), put(".", five, "notes"), put(".", `"`+strings.Repeat("x", 41)+`"`, "notes", "owner"),
	}
}

// Each thing that is wrong, alone and with each other one: the first is told.
func TestMidOfTwoThatDoNotFit(t *testing.T) {
	faults := midFaults(t)
	pairs := 0
	for i, f := range faults {
		for _, base := range midBases() {
			wantMidWay(t, f.in(base), f.way)
			for _, g := range faults[i+1:] {
				if f.beside(g) {
					wantMidWay(t, f.in(g.in(base)), f.way)
					pairs++
				}
			}
		}
	}
	if pairs < 2000 {
		t.Errorf("%d pairs", pairs)
	}
}

// What fits in each place, but would not be OrderOk: `.`, and only where nothing else is told.
func TestMidOfNoOrder(t *testing.T) {
	var metrics []node
	for _, m := range namedMetrics("e", "d", "c", "b", "a") {
		metrics = append(metrics, impl.MetricTree(m))
	}
	kept := textNode(paceWord(webOrder().Pace))
	five := written(t, `{"a":"","b":"","c":"","d":"","e":""}`)
	for _, base := range midBases() {
		for _, spoilt := range []node{
			putAt(base, intNode(1000), "low"), putAt(base, listNode(metrics...), "metrics"), putAt(base, five, "notes"),
			putAt(base, putAt(five, kept, "quay/pace"), "notes"), putAt(base, textNode(strings.Repeat("x", 41)), "notes", "a"), putAt(base, textNode(strings.Repeat("x", impl.MaxText)), "notes", "quays"),
		} {
			wantMidWay(t, spoilt, ".")
			wantMidWay(t, putAt(spoilt, textNode(""), "notes", "quay/pace"), "notes/quay/pace")
			wantMidWay(t, putAt(spoilt, textNode(paceWord(newPace)), "notes", "quay/pace"), "notes/quay/pace")
			wantMidWay(t, putAt(spoilt, textNode(""), "notes", "quay/x"), "notes/quay/x")
			wantMidWay(t, putAt(spoilt, textNode(""), "target"), "target")
			wantMidWay(t, cutAt(spoilt, "target"), "target")
			wantMidWay(t, putAt(spoilt, node{}, "pace"), "pace")
		}
	}
}

// Met exactly, each limit is accepted; a kept Pace is none of the notes that are counted.
func TestMidOfLimits(t *testing.T) {
	long := strings.Repeat("x", 40)
	for _, p := range []impl.Pace{newPace, webOrder().Pace, {}} {
		o := withPace(fullOrder(), p)
		o.Low = o.High
		wantMid(t, midModel(o), o)
		for _, keys := range [][]string{{"a", "b", "c", "d"}, {"r", "s", "t", "u"}, {"a", "quay", "quays/", "z"}, {"a", "r"}, {"z"}, {}} {
			o.Notes = nil
			for _, key := range keys {
				o.Notes = append(o.Notes, noteOf(key, long))
			}
			wantMid(t, midModel(o), o)
			if len(keys) == 4 {
				wantMidWay(t, putAt(midModel(o), textNode(""), "notes", "v"), ".")
				wantMidWay(t, putAt(midModel(o), textNode(""), "notes", "quay/v"), "notes/quay/v")
			}
		}
	}
	if n := len(model(midModel(fullOrder()))["notes"].Keys); n != 5 {
		t.Errorf("four notes and a Pace are %d notes", n)
	}
}
