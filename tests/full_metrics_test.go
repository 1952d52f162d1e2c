package tests

import (
	"fmt"
	"slices"
	"strings"
	"testing"

	"loop.example/g00465/impl"
)

func wantMetrics(t *testing.T, tree node, want ...metric) {
	t.Helper()
	if got, way := impl.MetricsOf(tree); way != "" || !slices.Equal(got, want) {
		t.Errorf("MetricsOf(%s) = %+v, %q, want %+v", brief(tree), got, way, want)
	}
}

func wantMetricsWay(t *testing.T, tree node, want string) {
	t.Helper()
	if got, way := impl.MetricsOf(tree); way != want || len(got) != 0 {
		t.Errorf("MetricsOf(%s) = %+v, %.80q, want nothing and %.80q", brief(tree), got, way, want)
	}
}

// otherKinds are trees of every kind but that one, and of what is no kind.
func otherKinds(kind int) []node {
	var out []node
	for _, n := range []node{{}, flagNode(0), flagNode(1), intNode(0), intNode(1), intNode(5), textNode(""), textNode("a"), textNode("1"), textNode("1m"), textNode("full"), textNode("share"), listNode(), listNode(intNode(1)), listNode(textNode("a")), mapNode(nil), mapNode([]string{"a"}, textNode("a")), {Kind: 6}, {Kind: -1}} {
		if n.Kind != kind {
			out = append(out, n)
		}
	}
	return out
}

// A node of another kind that has what would fit, if its kind were right.
func disguised(n node) []node {
	var out []node
	for kind := -1; kind <= impl.NdMap+1; kind++ {
		if kind != n.Kind {
			other := n
			other.Kind = kind
			out = append(out, other)
		}
	}
	return out
}

func metricWith(key string, x node) node {
	return impl.Set(impl.MetricTree(metricOf("cpu", impl.MtMean, 500)), key, x)
}

func TestMetricsOf(t *testing.T) {
	wantMetrics(t, listNode())
	wantMetrics(t, node{Kind: impl.NdList, Kids: []node{}})
	wantMetrics(t, written(t, `[{"goal":"1k","kind":"whole","name":"z9"}]`), metricOf("z9", impl.MtWhole, mostGoal))
	wantMetrics(t, written(t, `[{"goal":"2","kind":"mean","name":"b"},{"name":"a","kind":"share","goal":"1m"}]`), metricOf("a", impl.MtShare, 1), metricOf("b", impl.MtMean, 2000))
	b, a0, a, aa, d := metricOf("b", 1, 1), metricOf("a0", 2, 2), metricOf("a", 3, 3), metricOf("aa", 1, 4), metricOf("d", 2, 5)
	tree := func(list ...metric) node {
		var out []node
		for _, m := range list {
			out = append(out, impl.MetricTree(m))
		}
		return listNode(out...)
	}
	wantMetrics(t, tree(b, a), a, b)
	wantMetrics(t, tree(b, aa, a0, a), a, a0, aa, b)
	wantMetrics(t, tree(a, aa, b, a0), a, a0, aa, b)
	// How many there may be is for OrderOk to say.
	wantMetrics(t, tree(d, b, aa, a0, a), a, a0, aa, b, d)
	for _, n := range append(otherKinds(impl.NdList), disguised(tree(b, a))...) {
		wantMetricsWay(t, n, ".")
	}
}

// Two of one Name: whatever else they have, the place of the one behind is told, and of several the first such place.
func TestMetricsOfOneName(t *testing.T) {
	for names, want := range map[string]int{
		"a a": 1, "b a b": 2, "a b a": 2, "b b a": 1, "a b b": 2, "a b c a": 3, "a b b a": 2, "b a a b": 2, "a a a": 1, "a b a b": 2, "c b a c b a": 3,
		"a b c d e f g h i j k a": 11, "k j i h g f e d c b a b": 11,
	} {
		var alike, other []node
		for i, name := range strings.Fields(names) {
			alike = append(alike, impl.MetricTree(metricOf(name, 1, 1)))
			other = append(other, impl.MetricTree(metricOf(name, i%3+1, i+1)))
		}
		wantMetricsWay(t, listNode(alike...), fmt.Sprint(want))
		wantMetricsWay(t, listNode(other...), fmt.Sprint(want))
		wantMetricsWay(t, listNode(append([]node{impl.MetricTree(metricOf("zz", 1, 1))}, alike...)...), fmt.Sprint(want+1))
	}
}

func TestMetricsOfGoals(t *testing.T) {
	fits := map[string]int{"1m": 1, "999m": 999, "1000m": 1000, "1": 1000, "2": 2000, "999": 999000, "1000": mostGoal, "1000000m": mostGoal, "1k": mostGoal, "999999m": 999999, "500m": 500}
	for s, goal := range fits {
		wantMetrics(t, listNode(metricWith("goal", textNode(s))), metricOf("cpu", 2, goal))
	}
	for _, s := range []string{"0", "0m", "0k", "0Ki", "1Ki", "2k", "1001", "1000001m", "1000000k", "1000001k", "99999999999999999999", "", "m", "k", "-1", "-1m", "+1", "01", "01m", "1 ", " 1", "1M", "1K", "1s", "1mm", "1.5", "x", "1m\n", "none"} {
		wantMetricsWay(t, listNode(metricWith("goal", textNode(s))), "0/goal")
	}
	for _, n := range append(otherKinds(impl.NdText), disguised(textNode("500m"))...) {
		wantMetricsWay(t, listNode(metricWith("goal", n)), "0/goal")
	}
}

func TestMetricsOfKindsAndNames(t *testing.T) {
	for s, kind := range map[string]int{"share": 1, "mean": 2, "whole": 3} {
		wantMetrics(t, listNode(metricWith("kind", textNode(s))), metricOf("cpu", kind, 500))
		for _, n := range disguised(textNode(s)) {
			wantMetricsWay(t, listNode(metricWith("kind", n)), "0/kind")
		}
	}
	for _, s := range []string{"none", "", "Share", "SHARE", "shares", "shar", " share", "share ", "x", "1", "2", "full", "share\x00"} {
		wantMetricsWay(t, listNode(metricWith("kind", textNode(s))), "0/kind")
	}
	for _, s := range goodNames() {
		wantMetrics(t, listNode(metricWith("name", textNode(s))), metricOf(s, 2, 500))
		for _, n := range disguised(textNode(s)) {
			wantMetricsWay(t, listNode(metricWith("name", n)), "0/name")
		}
	}
	for _, s := range badNames() {
		wantMetricsWay(t, listNode(metricWith("name", textNode(s))), "0/name")
	}
	for _, n := range otherKinds(impl.NdText) {
		wantMetricsWay(t, listNode(metricWith("kind", n)), "0/kind")
		wantMetricsWay(t, listNode(metricWith("name", n)), "0/name")
	}
}

func TestMetricsOfWays(t *testing.T) {
	for s, want := range map[string]string{
		`[1]`: "0", `[null]`: "0", `[[]]`: "0", `["a"]`: "0", `[{}]`: "0/goal",
		`[{"goal":"1"}]`: "0/kind", `[{"kind":"share"}]`: "0/goal", `[{"name":"a"}]`: "0/goal", `[{"goal":"1","kind":"share"}]`: "0/name", `[{"goal":"1","name":"a"}]`: "0/kind", `[{"kind":"share","name":"a"}]`: "0/goal",
		`[{"goal":"1","kind":"share","name":"a","x":1}]`: "0/x", `[{"":1,"goal":"1","kind":"share","name":"a"}]`: "0/", `[{".":1,"goal":"1","kind":"share","name":"a"}]`: "0/.", `[{"a/b":1,"goal":"1","kind":"share","name":"a"}]`: "0/a/b",
		`[{"goal":"1","goals":1,"kind":"share","name":"a"}]`: "0/goals", `[{"Goal":"1","goal":"1","kind":"share","name":"a"}]`: "0/Goal",

		// A Key that is none of these ahead of one that is missing, that ahead of what does not fit; each ascending.
		`[{"x":1}]`: "0/x", `[{"y":1,"x":1}]`: "0/x", `[{"x":1,"A":1,"goal":0}]`: "0/A", `[{"goal":0,"kind":0,"name":0,"zz":0}]`: "0/zz", `[{"goal":0,"zz":0}]`: "0/zz", `[{"goal":0,"kind":0}]`: "0/name", `[{"goal":0,"name":0}]`: "0/kind",
		`[{"goal":0,"kind":0,"name":0}]`: "0/goal", `[{"goal":"1","kind":0,"name":0}]`: "0/kind", `[{"goal":"1","kind":"mean","name":0}]`: "0/name", `[{"goal":"","kind":"mean","name":""}]`: "0/goal",

		// By their places, whatever each has.
		`[{"goal":"0","kind":"mean","name":"a"},1]`: "0/goal", `[{"goal":0,"kind":0,"name":0},{"x":1}]`: "0/goal", `[{"goal":"1"},{"x":1}]`: "0/kind", `[1,{"x":1}]`: "0", `[{"goal":"1","kind":"mean","name":"a"},2,{"x":1}]`: "1",
		`[{"goal":"1","kind":"mean","name":"a"},{"goal":"1","kind":"mean","name":"b"},{"goal":"1","kind":"mean","name":"c"},{"goal":"1","kind":"mean","name":"d"},{"goal":"1","kind":"mean","name":"e"},{"goal":"1","kind":"none","name":"f"}]`: "5/kind",

		// What does not fit ahead of two of one Name, over the whole list; what does not fit has no Name.
		`[{"goal":"1","kind":"mean","name":"a"},{"goal":"1","kind":"mean","name":"a"},1]`:                                         "2",
		`[{"goal":"1","kind":"mean","name":"a"},{"goal":"1","kind":"mean","name":"a"},{"goal":"1","kind":"mean","name":"B"}]`:     "2/name",
		`[{"goal":"1","kind":"mean","name":"a"},{"goal":"1","kind":"mean","name":"a"},{"goal":"1","name":"a"}]`:                   "2/kind",
		`[{"goal":"1","kind":"mean","name":"a"},{"goal":"0","kind":"mean","name":"a"}]`:                                           "1/goal",
		`[{"goal":"1","kind":"mean","name":"a"},{"goal":"1","kind":"mean","name":"a","x":0}]`:                                     "1/x",
		`[{"goal":"0","kind":"mean","name":"a"},{"goal":"1","kind":"mean","name":"a"}]`:                                           "0/goal",
		`[{"goal":"1","kind":"mean","name":"a"},{"goal":"1","kind":"mean","name":"b"},{"goal":"1000m","kind":"mean","name":"a"}]`: "2",
	} {
		wantMetricsWay(t, written(t, s), want)
	}
	long := metricWith("kind", textNode("mean"))
	var many []node
	for i := range 1200 {
		many = append(many, impl.Set(long, "name", textNode(fmt.Sprintf("n%d", i))))
	}
	if got, way := impl.MetricsOf(listNode(many...)); way != "" || len(got) != 1200 || !slices.IsSortedFunc(got, byMetricName) {
		t.Errorf("of 1200: %d, %q", len(got), way)
	}
	many[1100] = node{}
	wantMetricsWay(t, listNode(many...), "1100")
}
