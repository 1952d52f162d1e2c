package tests

import (
	"maps"
	"math/rand"
	"regexp"
	"slices"
	"strings"
	"testing"

	"loop.example/g00465/impl"
)

var keptMetric = regexp.MustCompile(`\{"goal":"([0-9]{1,7}(?:m|k|))","kind":"(share|mean|whole)","name":"([a-z0-9-]+)"\}`)

func sortedMetrics(list ...metric) []metric {
	slices.SortFunc(list, byMetricName)
	return list
}

// keptMetrics says by the test's own means which metrics a note keeps, and whether it may keep them so; which of them are a share it does not ask.
func keptMetrics(s string) ([]metric, bool) {
	var list []metric
	names := map[string]int{}
	for _, parts := range keptMetric.FindAllStringSubmatch(s, -1) {
		goal := goalIn(textNode(parts[1]))
		if goal < 1 || !nameForm.MatchString(parts[3]) {
			return nil, false
		}
		list = append(list, metricOf(parts[3], kindIn(textNode(parts[2])), goal))
		names[parts[3]]++
	}
	// A list of more has more than MaxNodes nodes.
	if len(list) == 0 || len(list) > 49 || len(names) != len(list) || !slices.IsSortedFunc(list, byMetricName) {
		return nil, false
	}
	return list, metricsWord(list...) == s
}

func plainWays(n node) []string {
	if n.Kind != impl.NdMap {
		return []string{"."}
	}
	ways := shapeWays(n, "plain", map[string]func(node) []string{"share": leaf(func(n node) bool { return manyIn(n, 1) })})
	if len(ways) > 0 {
		return ways
	}
	notes := model(model(n)["notes"])
	_, share := model(n)["share"]
	if kept, in := notes["quay/metrics"]; in {
		list, fits := keptMetrics(kept.S)
		for _, m := range list {
			fits = fits && (m.Name != "cpu" || !share && shareIn(m) == 0)
		}
		if !fits {
			ways = append(ways, "notes/quay/metrics")
		}
	}
	if kept, in := notes["quay/pace"]; in {
		if _, fits := keptPace(kept.S); !fits {
			ways = append(ways, "notes/quay/pace")
		}
	}
	for _, key := range slices.Sorted(maps.Keys(notes)) {
		if key != "quay/metrics" && key != "quay/pace" && strings.HasPrefix(key, "quay/") {
			ways = append(ways, "notes/"+key)
		}
	}
	if !orderFits(plainValue(n)) {
		ways = append(ways, ".")
	}
	return ways
}

// plainValue takes what notes keep as it is: what is wrong with it is told ahead.
func plainValue(n node) order {
	o := midValue(n)
	if share, in := model(n)["share"]; in {
		o.Metrics = []metric{cpuOf(10 * share.N)}
	}
	if at := slices.IndexFunc(o.Notes, func(n note) bool { return n.Key == "quay/metrics" }); at >= 0 {
		kept, _ := keptMetrics(o.Notes[at].Text)
		o.Metrics = sortedMetrics(append(o.Metrics, kept...)...)
		o.Notes = slices.Delete(o.Notes, at, at+1)
	}
	return o
}

// plainHeld is PlainOf of a tree held against the test's own reader; and the way.
func plainHeld(t *testing.T, n node) string {
	t.Helper()
	if ways := plainWays(n); len(ways) > 0 {
		wantPlainWay(t, n, ways[0])
	} else {
		wantPlainOrder(t, n, plainValue(n))
	}
	_, way := impl.PlainOf(n)
	return way
}

// keptLists are what notes keep of metrics, rightly or not.
func keptLists() []string {
	out := cpusRefused()
	for _, texts := range noMetrics() {
		for _, s := range texts {
			if len(s) <= impl.MaxText {
				out = append(out, s)
			}
		}
	}
	for _, texts := range []map[string][]metric{metricsKept(), cpusKept(), metricsKept(), cpusKept(), metricsKept(), cpusKept()} {
		for s := range texts {
			out = append(out, s)
		}
	}
	slices.Sort(out)
	return out
}

// spoiltPlain changes a tree in one thing, and in the share and in what notes keep more often than elsewhere.
func spoiltPlain(r *rand.Rand, n node, lists []string, paces []string) node {
	notes := model(n)["notes"]
	if r.Intn(2) == 0 || n.Kind != impl.NdMap || notes.Kind != impl.NdMap {
		return spoiltTree(r, n)
	}
	switch r.Intn(8) {
	case 0:
		return cutAt(n, "notes", []string{"quay/pace", "quay/metrics"}[r.Intn(2)])
	case 1:
		return putAt(n, textNode("x"), "notes", []string{"quay/", "quay/a", "quay/x", "quay/metrics/x", "quay/pace/x"}[r.Intn(5)])
	case 2:
		return putAt(n, intNode(numberNear(r, 1, 1000)), "share")
	case 3:
		return cutAt(n, "share")
	case 4:
		return spoiltMid(r, n, paces)
	}
	return putAt(n, textNode(lists[r.Intn(len(lists))]), "notes", "quay/metrics")
}

func TestPlainOfSpoiltTrees(t *testing.T) {
	r := rand.New(rand.NewSource(99))
	ways := map[string]int{}
	bases, lists, paces := plainBases(), keptLists(), keptTexts()
	for range 60000 {
		n := bases[r.Intn(len(bases))]
		for range r.Intn(4) {
			n = spoiltPlain(r, n, lists, paces)
		}
		ways[plainHeld(t, n)]++
		if t.Failed() {
			t.Fatalf("%s", brief(n))
		}
	}
	if ways[""] < 10000 {
		t.Errorf("only %d were read", ways[""])
	}
	for _, way := range []string{".", "high", "kind", "low", "metrics", "name", "notes", "pace", "share", "target", "notes/owner", "notes/a b", "notes/quay/metrics", "notes/quay/pace", "notes/quay/", "notes/quay/a", "notes/quay/x", "notes/quay/metrics/x", "notes/quay/pace/x", "zz", "quay/pace"} {
		if ways[way] < 3 {
			t.Errorf("the way %q was told %d times", way, ways[way])
		}
	}
}

// What is told of an order is told of no other one: what is read is told again as it was.
func TestPlainTreesAreToldAgain(t *testing.T) {
	r := rand.New(rand.NewSource(98))
	bases, lists, paces := plainBases(), keptLists(), keptTexts()
	again := 0
	for range 20000 {
		n := spoiltPlain(r, bases[r.Intn(len(bases))], lists, paces)
		o, way := impl.PlainOf(n)
		if way != "" || !orderFits(o) {
			continue
		}
		// What may be left away is told nevertheless.
		want := n
		if _, in := model(n)["low"]; !in {
			want = putAt(want, intNode(1), "low")
		}
		if _, in := model(n)["notes"]; !in {
			want = putAt(want, mapNode(nil), "notes")
		}
		wantTree(t, "told again", impl.PlainTree(o), want)
		again++
	}
	if again < 5000 {
		t.Errorf("only %d were told again", again)
	}
}
