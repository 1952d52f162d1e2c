package tests

import (
	"strings"
	"testing"

	"loop.example/g00465/impl"
)

func wantFull(t *testing.T, tree node, want order) {
	t.Helper()
	if got, way := impl.FullOf(tree); way != "" || !impl.OrderSame(got, want) {
		t.Errorf("FullOf(%s) = %+v, %q, want %+v", brief(tree), got, way, want)
	}
}

func wantFullWay(t *testing.T, tree node, want string) {
	t.Helper()
	if got, way := impl.FullOf(tree); way != want || !impl.OrderSame(got, order{}) {
		t.Errorf("FullOf(%s) = %+v, %.80q, want zero and %.80q", brief(tree), got, way, want)
	}
}

// leastFull is the shortest map that is an order.
func leastFull(t *testing.T) node {
	t.Helper()
	return written(t, `{"high":3,"kind":"full","name":"a","target":"b"}`)
}

func leastOrder() order {
	return order{Name: "a", Target: "b", Low: 1, High: 3, Pace: impl.PaceNew()}
}

// fullWith is the whole tree of an ordinary order, and the shortest one, each with x at that Key.
func fullWith(t *testing.T, key string, x node) []node {
	t.Helper()
	return []node{impl.Set(impl.FullTree(webOrder()), key, x), impl.Set(leastFull(t), key, x)}
}

func wantFullWaysWith(t *testing.T, key string, x node, want string) {
	t.Helper()
	for _, tree := range fullWith(t, key, x) {
		wantFullWay(t, tree, want)
	}
}

// Every choice of the Keys that may be missing.
func TestFullOfWhatIsNotThere(t *testing.T) {
	left := map[string]func(o *order){
		"low":     func(o *order) { o.Low = 1 },
		"metrics": func(o *order) { o.Metrics = nil },
		"notes":   func(o *order) { o.Notes = nil },
		"pace":    func(o *order) { o.Pace = impl.Pace{Up: 0, Down: 0, UpSpan: 0, DownSpan: 300} },
	}
	for some := range 16 {
		tree, want := impl.FullTree(webOrder()), webOrder()
		for i, key := range []string{"low", "metrics", "notes", "pace"} {
			if some>>i&1 == 0 {
				tree = impl.Unset(tree, key)
				left[key](&want)
			}
		}
		wantFull(t, tree, want)
	}
	wantFull(t, leastFull(t), leastOrder())
}

// Every choice of the Keys that must be there: the first missing one by its bytes is told, whatever else does not fit.
func TestFullOfWhatMustBeThere(t *testing.T) {
	must := []string{"high", "kind", "name", "target"}
	for some := 1; some < 16; some++ {
		whole, least, first := impl.FullTree(webOrder()), leastFull(t), ""
		for i, key := range must {
			if some>>i&1 == 0 {
				continue
			}
			whole, least = impl.Unset(whole, key), impl.Unset(least, key)
			if first == "" {
				first = key
			}
		}
		wantFullWay(t, whole, first)
		wantFullWay(t, least, first)
		for _, key := range []string{"high", "kind", "low", "metrics", "name", "notes", "pace", "target"} {
			if spoilt := impl.Set(whole, key, flagNode(1)); len(spoilt.Keys) == len(whole.Keys) {
				wantFullWay(t, spoilt, first)
			}
		}
	}
	wantFullWay(t, mapNode(nil), "high")
}

// A Key that is none of these comes ahead of all else, the first one by its bytes.
func TestFullOfStrangeKeys(t *testing.T) {
	strange := []string{"", " ", "!", ".", "/", "0", "A", "High", "a", "high ", "highs", "k", "kinds", "lo", "low/x", "metric", "n", "note", "notes/a", "pace/up", "paces", "quay/pace", "share", "targets", "up", "z", strings.Repeat("z", impl.MaxText), "~"}
	for i, key := range strange {
		for _, x := range []node{{}, intNode(1), textNode("full"), mapNode(nil)} {
			wantFullWaysWith(t, key, x, key)
			wantFullWay(t, mapNode([]string{key}, x), key)
		}
		for _, other := range strange[i+1:] {
			two := impl.Set(impl.Set(leastFull(t), other, node{}), key, node{})
			wantFullWay(t, two, key)
			for _, gone := range []string{"high", "kind", "name", "target"} {
				wantFullWay(t, impl.Unset(two, gone), key)
				wantFullWay(t, impl.Set(two, gone, node{}), key)
			}
			wantFullWay(t, impl.Set(two, "low", intNode(9)), key)
		}
	}
}

func TestFullOfValues(t *testing.T) {
	for n, ok := range edges(1, 1000) {
		want := leastOrder()
		want.Low, want.High = 1, n
		low := impl.Set(impl.Set(leastFull(t), "high", intNode(1000)), "low", intNode(n))
		if ok {
			wantFull(t, impl.Set(leastFull(t), "high", intNode(n)), want)
			want.Low, want.High = n, 1000
			wantFull(t, low, want)
		} else {
			wantFullWaysWith(t, "high", intNode(n), "high")
			wantFullWay(t, low, "low")
		}
	}
	for _, s := range goodNames() {
		named, aimed := leastOrder(), leastOrder()
		named.Name, aimed.Target = s, s
		wantFull(t, impl.Set(leastFull(t), "name", textNode(s)), named)
		wantFull(t, impl.Set(leastFull(t), "target", textNode(s)), aimed)
	}
	for _, s := range badNames() {
		wantFullWaysWith(t, "name", textNode(s), "name")
		wantFullWaysWith(t, "target", textNode(s), "target")
	}
	for _, s := range []string{"", "Full", "full ", " full", "ful", "middle", "plain", "none", "share", "full\x00"} {
		wantFullWaysWith(t, "kind", textNode(s), "kind")
	}
}

// At each Key all that is of another kind.
func TestFullOfOtherKinds(t *testing.T) {
	kinds := map[string]int{"high": impl.NdInt, "kind": impl.NdText, "low": impl.NdInt, "metrics": impl.NdList, "name": impl.NdText, "notes": impl.NdMap, "pace": impl.NdMap, "target": impl.NdText}
	tree := impl.FullTree(webOrder())
	for i, key := range tree.Keys {
		for _, n := range append(otherKinds(kinds[key]), disguised(tree.Kids[i])...) {
			wantFullWaysWith(t, key, n, key)
		}
	}
	for _, n := range append(otherKinds(impl.NdMap), disguised(tree)...) {
		wantFullWay(t, n, ".")
	}
}

// What MetricsOf, PaceOf and NotesOf tell, with the Key ahead.
func TestFullOfWaysWithin(t *testing.T) {
	rows := map[string]map[string]string{
		"metrics": {
			`null`: "metrics", `{}`: "metrics", `[1]`: "metrics/0", `[{}]`: "metrics/0/goal", `[{"":1}]`: "metrics/0/", `[{".":1}]`: "metrics/0/.", `[{"x":1}]`: "metrics/0/x",
			`[{"goal":"1","kind":"x","name":"a"}]`: "metrics/0/kind", `[{"goal":"1","kind":"none","name":"a"}]`: "metrics/0/kind", `[{"goal":"2k","kind":"mean","name":"a"}]`: "metrics/0/goal",
			`[{"goal":"1","kind":"mean","name":"a"},{"goal":"1","kind":"mean"}]`:            "metrics/1/name",
			`[{"goal":"1","kind":"mean","name":"a"},{"goal":"2","kind":"mean","name":"a"}]`: "metrics/1",
		},
		"pace": {
			`null`: "pace", `[]`: "pace", `{"up":-1}`: "pace/up", `{"x":1}`: "pace/x", `{"upspan":"2h"}`: "pace/upspan", `{"a/b":1}`: "pace/a/b", `{"pace":{}}`: "pace/pace",
			// A Key may be empty; and what is told as `.` is the Key itself, whyever it is told.
			`{"":1}`: "pace/", `{"":1,"up":1}`: "pace/", `{".":1}`: "pace",
		},
		"notes": {
			`null`: "notes", `[]`: "notes", `{"a":1}`: "notes/a", `{"a b":"x"}`: "notes/a b", `{"null":"x"}`: "notes/null", `{"quay/pace":1}`: "notes/quay/pace", `{"a":"x","b":[]}`: "notes/b",
			`{"":"x"}`: "notes/", `{".":"x"}`: "notes",
		},
	}
	for key, ways := range rows {
		for s, want := range ways {
			wantFullWaysWith(t, key, written(t, s), want)
		}
	}
}

// By Keys, ascending: each pair of them, both wrong, also where one of them is wrong within.
func TestFullOfTwoThatDoNotFit(t *testing.T) {
	wrong := map[string]map[string]string{
		"high":    {`0`: "high", `"9"`: "high", `1001`: "high"},
		"kind":    {`"middle"`: "kind", `null`: "kind"},
		"low":     {`0`: "low", `1001`: "low"},
		"metrics": {`{}`: "metrics", `[0]`: "metrics/0", `[{"x":1}]`: "metrics/0/x"},
		"name":    {`""`: "name", `1`: "name"},
		"notes":   {`[]`: "notes", `{"a":1}`: "notes/a", `{"~":"x"}`: "notes/~"},
		"pace":    {`0`: "pace", `{"up":-1}`: "pace/up", `{"x":1}`: "pace/x"},
		"target":  {`"A"`: "target", `[]`: "target"},
	}
	for a, these := range wrong {
		for b, those := range wrong {
			for x, want := range these {
				for y := range those {
					if a < b {
						for _, tree := range fullWith(t, a, written(t, x)) {
							wantFullWay(t, impl.Set(tree, b, written(t, y)), want)
						}
					}
				}
			}
		}
	}
}

// What fits in each place, but would not be OrderOk: `.`, and only where nothing else is told.
func TestFullOfNoOrder(t *testing.T) {
	five := map[string]node{"a": textNode(""), "b": textNode(""), "c": textNode(""), "d": textNode(""), "e": textNode("")}
	var metrics []node
	for _, m := range namedMetrics("e", "d", "c", "b", "a") {
		metrics = append(metrics, impl.MetricTree(m))
	}
	rows := []struct {
		key string
		x   node
	}{
		{"low", intNode(10)}, {"low", intNode(1000)}, {"metrics", listNode(metrics...)}, {"notes", mapOf(five)},
		{"notes", written(t, `{"quay/pace":"{}"}`)}, {"notes", written(t, `{"quay/":""}`)}, {"notes", written(t, `{"a":"x","quay/x":"y"}`)},
		{"notes", mapNode([]string{"a"}, textNode(strings.Repeat("x", 41)))}, {"notes", mapNode([]string{"a"}, textNode(strings.Repeat("x", impl.MaxText)))},
	}
	for _, r := range rows {
		for _, tree := range fullWith(t, r.key, r.x) {
			wantFullWay(t, tree, ".")
			wantFullWay(t, impl.Set(tree, "target", textNode("")), "target")
			wantFullWay(t, impl.Unset(tree, "target"), "target")
			wantFullWay(t, impl.Set(tree, "zz", node{}), "zz")
			wantFullWay(t, impl.Set(tree, "pace", written(t, `{"upspan":"1"}`)), "pace/upspan")
		}
	}
	// Met exactly, each of these is accepted.
	want := leastOrder()
	want.Low = 3
	wantFull(t, impl.Set(leastFull(t), "low", intNode(3)), want)
	wantFullWay(t, impl.Set(leastFull(t), "low", intNode(4)), ".")
	delete(five, "c")
	most := impl.Set(impl.Set(leastFull(t), "metrics", listNode(metrics[1:]...)), "notes", mapOf(five))
	if got, way := impl.FullOf(most); way != "" || len(got.Metrics) != 4 || len(got.Notes) != 4 || got.Metrics[0].Name != "a" {
		t.Errorf("FullOf(%s) = %+v, %q", brief(most), got, way)
	}
	wantFull(t, impl.Set(leastFull(t), "notes", mapNode([]string{"quays/"}, textNode(strings.Repeat("x", 40)))), withNotes(leastOrder(), noteOf("quays/", strings.Repeat("x", 40))))
}

func withNotes(o order, notes ...note) order {
	o.Notes = notes
	return o
}

// Metrics are ordered, goals and spans are read in each of their writings.
func TestFullOfReadsLoosely(t *testing.T) {
	tree := written(t, `{"target":"pool","pace":{"upspan":"60s","down":4},"name":"web","metrics":[{"name":"hits","kind":"mean","goal":"1000m"},{"name":"cpu","kind":"share","goal":"1"}],"kind":"full","high":5}`)
	want := order{Name: "web", Target: "pool", Low: 1, High: 5, Pace: impl.Pace{Down: 4, UpSpan: 60, DownSpan: 300}}
	want.Metrics = []metric{metricOf("cpu", impl.MtShare, 1000), metricOf("hits", impl.MtMean, 1000)}
	wantFull(t, tree, want)
	if got := impl.Braced(impl.FullTree(want)); got != `{"high":5,"kind":"full","low":1,"metrics":[{"goal":"1","kind":"share","name":"cpu"},{"goal":"1","kind":"mean","name":"hits"}],"name":"web","notes":{},"pace":{"down":4,"downspan":"5m","up":0,"upspan":"1m"},"target":"pool"}` {
		t.Error(got)
	}
}
