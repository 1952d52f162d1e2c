package tests

import (
	"slices"
	"strings"
	"testing"

	"loop.example/g00465/impl"
)

func wantPlainOrder(t *testing.T, tree node, want order) {
	t.Helper()
	if got, way := impl.PlainOf(tree); way != "" || !impl.OrderSame(got, want) {
		t.Errorf("PlainOf(%s) = %+v, %q, want %+v", brief(tree), got, way, want)
	}
}

func wantPlainWay(t *testing.T, tree node, want string) {
	t.Helper()
	if got, way := impl.PlainOf(tree); way != want || !impl.OrderSame(got, order{}) {
		t.Errorf("PlainOf(%s) = %+v, %.80q, want zero and %.80q", brief(tree), got, way, want)
	}
}

// leastPlain is the shortest map that is an order.
func leastPlain() node {
	return mapNode([]string{"high", "kind", "name", "target"}, intNode(3), textNode("plain"), textNode("a"), textNode("b"))
}

// plainBases are the trees that are spoilt: with and without a share, kept metrics, a kept Pace and other notes.
func plainBases() []node {
	web, still := webOrder(), withPace(webOrder(), newPace)
	return []node{
		plainModel(web), plainModel(fullOrder()), plainModel(still), plainModel(withNotes(web)), plainModel(withMetrics(web, cpuOf(10))),
		plainModel(withMetrics(web, cpuOf(505), web.Metrics[1])), plainModel(withMetrics(web)), leastPlain(),
	}
}

// wantPlainWaysWith asks for each of these with x put there.
func wantPlainWaysWith(t *testing.T, want string, x node, path ...string) {
	t.Helper()
	for _, base := range plainBases() {
		wantPlainWay(t, putAt(base, x, path...), want)
	}
}

// Every choice of the Keys that may be missing.
func TestPlainOfWhatIsNotThere(t *testing.T) {
	hits := webOrder().Metrics[1]
	for some := range 8 {
		tree, want := plainModel(webOrder()), webOrder()
		if some&1 == 0 {
			tree, want.Low = cutAt(tree, "low"), 1
		}
		if some&2 == 0 {
			tree, want.Metrics = cutAt(tree, "share"), []metric{hits}
		}
		// Without notes there are neither metrics nor a Pace that are kept.
		if some&4 == 0 {
			tree, want.Notes, want.Pace = cutAt(tree, "notes"), nil, newPace
			want.Metrics = slices.DeleteFunc(want.Metrics, func(m metric) bool { return m == hits })
		}
		wantPlainOrder(t, tree, want)
	}
	wantPlainOrder(t, leastPlain(), leastOrder())
	wantPlainOrder(t, putAt(leastPlain(), mapNode(nil), "notes"), leastOrder())
	wantPlainOrder(t, putAt(leastPlain(), intNode(7), "share"), withMetrics(leastOrder(), cpuOf(70)))
	wantPlainOrder(t, cutAt(plainModel(webOrder()), "notes", "quay/pace"), withPace(webOrder(), newPace))
	wantPlainOrder(t, cutAt(plainModel(webOrder()), "notes", "quay/metrics"), withMetrics(webOrder(), cpuOf(500)))
	wantPlainOrder(t, cutAt(plainModel(fullOrder()), "notes", "quay/metrics"), withMetrics(fullOrder()))
}

// Every choice of the Keys that must be there: the first missing one by its bytes is told, whatever else does not fit.
func TestPlainOfWhatMustBeThere(t *testing.T) {
	for some := 1; some < 16; some++ {
		for _, tree := range plainBases() {
			first := ""
			for i, key := range []string{"high", "kind", "name", "target"} {
				if some>>i&1 == 1 {
					tree = cutAt(tree, key)
					if first == "" {
						first = key
					}
				}
			}
			wantPlainWay(t, tree, first)
			wantPlainWay(t, putAt(tree, intNode(0), "share"), first)
			for _, key := range []string{"quay/metrics", "quay/pace", "quay/x"} {
				wantPlainWay(t, putAt(tree, textNode("x"), "notes", key), first)
			}
			for _, key := range tree.Keys {
				wantPlainWay(t, putAt(tree, flagNode(1), key), first)
			}
		}
	}
	wantPlainWay(t, mapNode(nil), "high")
}

// A Key that is none of these comes ahead of all else, the first one by its bytes; `metrics` and `pace` are such, whatever stands there.
func TestPlainOfStrangeKeys(t *testing.T) {
	strange := []string{"", ".", "A", "High", "a", "cpu", "kinds", "metrics", "metricss", "notes/a", "oz", "pace", "paces", "quay/metrics", "quay/pace", "shar", "share/", "shares", "up", "zz", "~"}
	for i, key := range strange {
		for _, x := range []node{{}, intNode(1), textNode("plain"), listNode(), mapNode(nil), impl.PaceTree(newPace), listNode(impl.MetricTree(cpuOf(10)))} {
			wantPlainWaysWith(t, key, x, key)
			wantPlainWay(t, mapNode([]string{key}, x), key)
		}
		for _, other := range strange[i+1:] {
			for _, base := range plainBases() {
				two := putAt(putAt(base, node{}, other), node{}, key)
				wantPlainWay(t, two, key)
				wantPlainWay(t, cutAt(two, "high"), key)
				wantPlainWay(t, putAt(two, intNode(0), "share"), key)
				wantPlainWay(t, putAt(two, textNode(""), "notes", "quay/metrics"), key)
			}
		}
	}
	wantPlainWay(t, impl.FullTree(webOrder()), "metrics")
	wantPlainWay(t, impl.MidTree(webOrder()), "metrics")
	wantPlainWay(t, cutAt(impl.FullTree(webOrder()), "metrics"), "pace")
}

func TestPlainOfOtherShapes(t *testing.T) {
	for _, s := range []string{"", "Plain", "PLAIN", "plain ", " plain", "plai", "plains", "full", "middle", "none", "share", "plain\x00"} {
		wantPlainWaysWith(t, "kind", textNode(s), "kind")
	}
	for _, n := range append(otherKinds(impl.NdText), disguised(textNode("plain"))...) {
		wantPlainWaysWith(t, "kind", n, "kind")
	}
	// The other way round, too.
	wantFullWay(t, leastPlain(), "kind")
	wantMidWay(t, leastPlain(), "kind")
	wantMidWay(t, plainModel(webOrder()), "share")
	wantFullWay(t, plainModel(webOrder()), "share")
	wantPlainWay(t, leastFull(t), "kind")
	wantPlainWay(t, leastMid(), "kind")
	wantMidWay(t, putAt(leastMid(), textNode(metricsWord(cpuOf(5))), "notes", "quay/metrics"), "notes/quay/metrics")
	wantFullWay(t, putAt(leastFull(t), textNode(metricsWord(cpuOf(5))), "notes", "quay/metrics"), ".")
}

func TestPlainOfShares(t *testing.T) {
	hits := webOrder().Metrics[1]
	for n := -20; n <= 1020; n++ {
		alone, beside := putAt(leastPlain(), intNode(n), "share"), putAt(plainModel(webOrder()), intNode(n), "share")
		if n >= 1 && n <= 1000 {
			wantPlainOrder(t, alone, withMetrics(leastOrder(), cpuOf(10*n)))
			wantPlainOrder(t, beside, withMetrics(webOrder(), cpuOf(10*n), hits))
		} else {
			wantPlainWay(t, alone, "share")
			wantPlainWay(t, beside, "share")
		}
	}
	for n, ok := range edges(1, 1000) {
		if !ok {
			wantPlainWaysWith(t, "share", intNode(n), "share")
		}
	}
	for _, n := range append(otherKinds(impl.NdInt), disguised(intNode(50))...) {
		wantPlainWaysWith(t, "share", n, "share")
	}
	for _, s := range []string{"", "1", "50", "500m", "share"} {
		wantPlainWaysWith(t, "share", textNode(s), "share")
	}
}

func TestPlainOfValues(t *testing.T) {
	for n, ok := range edges(1, 1000) {
		want := leastOrder()
		want.Low, want.High = 1, n
		low := putAt(putAt(leastPlain(), intNode(1000), "high"), intNode(n), "low")
		if ok {
			wantPlainOrder(t, putAt(leastPlain(), intNode(n), "high"), want)
			want.Low, want.High = n, 1000
			wantPlainOrder(t, low, want)
		} else {
			wantPlainWaysWith(t, "high", intNode(n), "high")
			wantPlainWay(t, low, "low")
		}
	}
	for _, s := range goodNames() {
		named, aimed := leastOrder(), leastOrder()
		named.Name, aimed.Target = s, s
		wantPlainOrder(t, putAt(leastPlain(), textNode(s), "name"), named)
		wantPlainOrder(t, putAt(leastPlain(), textNode(s), "target"), aimed)
	}
	for _, s := range badNames() {
		wantPlainWaysWith(t, "name", textNode(s), "name")
		wantPlainWaysWith(t, "target", textNode(s), "target")
	}
}

// At each Key all that is of another kind, and at the root.
func TestPlainOfOtherKinds(t *testing.T) {
	kinds := map[string]int{"high": impl.NdInt, "kind": impl.NdText, "low": impl.NdInt, "name": impl.NdText, "notes": impl.NdMap, "share": impl.NdInt, "target": impl.NdText}
	tree := plainModel(webOrder())
	for i, key := range tree.Keys {
		for _, n := range append(otherKinds(kinds[key]), disguised(tree.Kids[i])...) {
			wantPlainWaysWith(t, key, n, key)
		}
	}
	for _, n := range append(otherKinds(impl.NdMap), disguised(tree)...) {
		wantPlainWay(t, n, ".")
	}
	// A note that is no text does not fit as a note; what it would keep counts for nothing.
	for key, s := range map[string]string{"a": "", "quay/metrics": metricsWord(cpuOf(5)), "quay/pace": paceWord(webOrder().Pace), "quay/x": ""} {
		for _, n := range append(otherKinds(impl.NdText), disguised(textNode(s))...) {
			wantPlainWaysWith(t, "notes/"+key, n, "notes", key)
		}
	}
	wantPlainWaysWith(t, "notes/quay/metrics", listNode(impl.MetricTree(metricOf("a", 2, 5))), "notes", "quay/metrics")
}

func TestPlainOfWaysWithin(t *testing.T) {
	for s, want := range map[string]string{
		`[]`: "notes", `{"a":1}`: "notes/a", `{"a b":"x"}`: "notes/a b", `{"null":"x"}`: "notes/null", `{"a":"x","b":[]}`: "notes/b", `{"":"x"}`: "notes/", `{".":"x"}`: "notes",
		`{"quay/metrics":1}`: "notes/quay/metrics", `{"quay/metrics":1,"quay/pace":1}`: "notes/quay/metrics", `{"quay/metrics":"x","quay/pace":1}`: "notes/quay/pace", `{"quay/metrics":"x","quay/pace":"x","r":1}`: "notes/r", `{"a":1,"quay/metrics":1}`: "notes/a", `{"quay/a":"x","quay/metrics":1}`: "notes/quay/metrics", `{"quay/ ":"x","quay/metrics":1}`: "notes/quay/ ", `{"quay/metrics":"[]","r s":""}`: "notes/r s",
	} {
		wantPlainWaysWith(t, want, written(t, s), "notes")
	}
}

// By Keys, in whatever order they are written; a share and kept metrics come to stand by their Names.
func TestPlainOfReadsLoosely(t *testing.T) {
	tree := written(t, `{"target":"pool","share":12,"name":"web","notes":{"quay/pace":"{\"down\":4,\"downspan\":\"5m\",\"up\":0,\"upspan\":\"1m\"}","b":"","quay/metrics":"[{\"goal\":\"1\",\"kind\":\"mean\",\"name\":\"a\"},{\"goal\":\"1k\",\"kind\":\"share\",\"name\":\"hits\"}]","a":"1"},"kind":"plain","high":5}`)
	want := order{Name: "web", Target: "pool", Low: 1, High: 5, Pace: impl.Pace{Down: 4, UpSpan: 60, DownSpan: 300}}
	want.Metrics = []metric{metricOf("a", impl.MtMean, 1000), cpuOf(120), metricOf("hits", impl.MtShare, 1000000)}
	want.Notes = []note{noteOf("a", "1"), noteOf("b", "")}
	wantPlainOrder(t, tree, want)
}

// plainFaults are in the order in which they count.
func plainFaults(t *testing.T) []fault {
	t.Helper()
	put := func(way string, x string, path ...string) fault {
		return fault{way: way, path: path, x: written(t, x)}
	}
	cut := func(key string) fault { return fault{way: key, path: []string{key}, cut: true} }
	five := `{"a":"","b":"","c":"","d":"","e":""}`
	return []fault{
		put("", `1`, ""), put("A", `1`, "A"), put("m", `1`, "m"), put("metrics", `[]`, "metrics"), put("pace", `{}`, "pace"), put("quay/metrics", `""`, "quay/metrics"), put("quay/pace", `""`, "quay/pace"), put("zz", `1`, "zz"),
		cut("high"), cut("kind"), cut("name"), cut("target"),
		put("high", `0`, "high"), put("kind", `"middle"`, "kind"), put("low", `0`, "low"), put("name", `"A"`, "name"),
		put("notes", `[]`, "notes"), put("notes/a b", `""`, "notes", "a b"), put("notes/b", `1`, "notes", "b"), put("notes/quay/a", `1`, "notes", "quay/a"), put("notes/quay/metrics", `1`, "notes", "quay/metrics"), put("notes/quay/pace", `1`, "notes", "quay/pace"), put("notes/quay/z", `1`, "notes", "quay/z"), put("notes/~", `""`, "notes", "~"),
		put("share", `0`, "share"), put("share", `1001`, "share"), put("share", `"1"`, "share"), put("target", `1`, "target"),
		put("notes/quay/metrics", `"[]"`, "notes", "quay/metrics"), put("notes/quay/metrics", `"x"`, "notes", "quay/metrics"), put("notes/quay/metrics", `"[{\"goal\":\"1\",\"kind\":\"share\",\"name\":\"cpu\"}]"`, "notes", "quay/metrics"), put("notes/quay/metrics", `"[{\"goal\":\"1\",\"kind\":\"mean\"}]"`, "notes", "quay/metrics"),
		put("notes/quay/pace", `"{}"`, "notes", "quay/pace"), put("notes/quay/pace", `"x"`, "notes", "quay/pace"),
		put("notes/quay/", `""`, "notes", "quay/"), put("notes/quay/a", `"x"`, "notes", "quay/a"), put("notes/quay/metric", `"[]"`, "notes", "quay/metric"), put("notes/quay/metrics/x", `""`, "notes", "quay/metrics/x"), put("notes/quay/pace/x", `""`, "notes", "quay/pace/x"), put("notes/quay/z", `""`, "notes", "quay/z"),
		put(".", `1000`, "low"), put(".", five, "notes"), put(".", `"`+strings.Repeat("x", 41)+`"`, "notes", "owner"),
	}
}

// Each thing that is wrong, alone and with each other one: the first is told.
func TestPlainOfTwoThatDoNotFit(t *testing.T) {
	faults := plainFaults(t)
	pairs := 0
	for i, f := range faults {
		for _, base := range plainBases() {
			wantPlainWay(t, f.in(base), f.way)
			for _, g := range faults[i+1:] {
				if f.beside(g) {
					wantPlainWay(t, f.in(g.in(base)), f.way)
					pairs++
				}
			}
		}
	}
	if pairs < 5000 {
		t.Errorf("%d pairs", pairs)
	}
}

// What fits in each place, but would not be OrderOk: `.`, and only where nothing else is told.
func TestPlainOfNoOrder(t *testing.T) {
	five := textNode(metricsWord(namedMetrics("a", "b", "c", "d", "e")...))
	fourKept := textNode(metricsWord(namedMetrics("a", "b", "c", "d")...))
	notes := written(t, `{"a":"","b":"","c":"","d":"","e":""}`)
	for _, base := range plainBases() {
		for _, spoilt := range []node{
			putAt(base, intNode(1000), "low"), putAt(base, five, "notes", "quay/metrics"), putAt(putAt(base, fourKept, "notes", "quay/metrics"), intNode(1), "share"), putAt(base, notes, "notes"),
			putAt(base, putAt(notes, fourKept, "quay/metrics"), "notes"), putAt(base, textNode(strings.Repeat("x", 41)), "notes", "a"), putAt(base, textNode(strings.Repeat("x", impl.MaxText)), "notes", "quays"),
		} {
			wantPlainWay(t, spoilt, ".")
			wantPlainWay(t, putAt(spoilt, textNode("[]"), "notes", "quay/metrics"), "notes/quay/metrics")
			wantPlainWay(t, putAt(spoilt, textNode(""), "notes", "quay/pace"), "notes/quay/pace")
			wantPlainWay(t, putAt(spoilt, textNode(paceWord(newPace)), "notes", "quay/pace"), "notes/quay/pace")
			wantPlainWay(t, putAt(spoilt, textNode(""), "notes", "quay/x"), "notes/quay/x")
			wantPlainWay(t, putAt(spoilt, intNode(0), "share"), "share")
			wantPlainWay(t, cutAt(spoilt, "target"), "target")
			wantPlainWay(t, putAt(spoilt, node{}, "pace"), "pace")
		}
	}
}

// Met exactly, each limit is accepted; what notes keep is none of the notes that are counted, and a share is one of the metrics.
func TestPlainOfLimits(t *testing.T) {
	long := strings.Repeat("x", 40)
	for _, list := range [][]metric{{}, {cpuOf(10)}, namedMetrics("a", "b", "c", "d"), append(namedMetrics("a", "b", "c"), cpuOf(10000)), append(namedMetrics("a"), cpuOf(10010))} {
		for _, p := range []impl.Pace{newPace, webOrder().Pace, {}} {
			o := withMetrics(withPace(fullOrder(), p), list...)
			o.Low = o.High
			for _, keys := range [][]string{{"a", "b", "c", "d"}, {"r", "s", "t", "u"}, {"a", "quay", "quays/", "z"}, {"z"}, {}} {
				o.Notes = nil
				for _, key := range keys {
					o.Notes = append(o.Notes, noteOf(key, long))
				}
				wantPlainOrder(t, plainModel(o), o)
				if len(keys) == 4 {
					wantPlainWay(t, putAt(plainModel(o), textNode(""), "notes", "v"), ".")
					wantPlainWay(t, putAt(plainModel(o), textNode(""), "notes", "quay/v"), "notes/quay/v")
				}
			}
		}
	}
	if n := len(model(plainModel(fullOrder()))["notes"].Keys); n != 6 {
		t.Errorf("four notes, metrics and a Pace are %d notes", n)
	}
}
