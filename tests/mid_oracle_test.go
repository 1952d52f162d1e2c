package tests

import (
	"maps"
	"math/rand"
	"regexp"
	"slices"
	"strconv"
	"strings"
	"testing"

	"loop.example/g00465/impl"
)

var keptForm = regexp.MustCompile(`^\{"down":([0-9]{1,4}),"downspan":"([0-9]{1,4}[smh])","up":([0-9]{1,4}),"upspan":"([0-9]{1,4}[smh])"\}\z`)

// keptPace says by the test's own means which Pace a note keeps, and whether it may keep it so.
func keptPace(s string) (impl.Pace, bool) {
	parts := keptForm.FindStringSubmatch(s)
	if parts == nil {
		return impl.Pace{}, false
	}
	seconds := map[string]int{"s": 1, "m": 60, "h": 3600}
	down, _ := strconv.Atoi(parts[1])
	up, _ := strconv.Atoi(parts[3])
	p := impl.Pace{Up: up, Down: down, UpSpan: times(spanText, parts[4], seconds), DownSpan: times(spanText, parts[2], seconds)}
	return p, paceFits(p) && p != newPace && paceWord(p) == s
}

func midWays(n node) []string {
	if n.Kind != impl.NdMap {
		return []string{"."}
	}
	ways := shapeWays(n, "middle", map[string]func(node) []string{"metrics": metricsWays})
	if len(ways) > 0 {
		return ways
	}
	notes := model(model(n)["notes"])
	if kept, in := notes["quay/pace"]; in {
		if _, fits := keptPace(kept.S); !fits {
			ways = append(ways, "notes/quay/pace")
		}
	}
	for _, key := range slices.Sorted(maps.Keys(notes)) {
		if key != "quay/pace" && strings.HasPrefix(key, "quay/") {
			ways = append(ways, "notes/"+key)
		}
	}
	if !orderFits(midValue(n)) {
		ways = append(ways, ".")
	}
	return ways
}

// midValue takes the kept Pace for one, whatever it is: what is wrong with it is told ahead.
func midValue(n node) order {
	o := fullValue(n)
	if at := slices.IndexFunc(o.Notes, func(n note) bool { return n.Key == "quay/pace" }); at >= 0 {
		o.Pace, _ = keptPace(o.Notes[at].Text)
		o.Notes = slices.Delete(o.Notes, at, at+1)
	}
	return o
}

// midHeld is MidOf of a tree held against the test's own reader; and the way.
func midHeld(t *testing.T, n node) string {
	t.Helper()
	if ways := midWays(n); len(ways) > 0 {
		wantMidWay(t, n, ways[0])
	} else {
		wantMid(t, n, midValue(n))
	}
	_, way := impl.MidOf(n)
	return way
}

// keptTexts are what notes keep, rightly or not.
func keptTexts() []string {
	var out []string
	for s := range pacesKept() {
		out = append(out, s)
	}
	for _, texts := range noPaces() {
		for _, s := range texts {
			if len(s) <= impl.MaxText {
				out = append(out, s)
			}
		}
	}
	slices.Sort(out)
	return out
}

// spoiltMid changes a tree in one thing, and in what notes keep more often than elsewhere.
func spoiltMid(r *rand.Rand, n node, texts []string) node {
	notes := model(n)["notes"]
	if r.Intn(2) == 0 || n.Kind != impl.NdMap || notes.Kind != impl.NdMap {
		return spoiltTree(r, n)
	}
	switch r.Intn(8) {
	case 0:
		return cutAt(n, "notes", "quay/pace")
	case 1:
		return putAt(n, textNode("x"), "notes", []string{"quay/", "quay/a", "quay/x", "quay/metrics", "quay/pace/x"}[r.Intn(5)])
	case 2:
		return putAt(n, textNode(""), "notes", []string{"a", "b", "quay", "quays", "z"}[r.Intn(5)])
	case 3:
		return putAt(n, textNode(paceWord(impl.Pace{Up: numberNear(r, 0, 1000), Down: numberNear(r, 0, 1000), UpSpan: numberNear(r, 0, 3600), DownSpan: numberNear(r, 0, 3600)})), "notes", "quay/pace")
	}
	return putAt(n, textNode(texts[r.Intn(len(texts))]), "notes", "quay/pace")
}

func TestMidOfSpoiltTrees(t *testing.T) {
	r := rand.New(rand.NewSource(88))
	ways := map[string]int{}
	bases, texts := midBases(), keptTexts()
	for range 60000 {
		n := bases[r.Intn(len(bases))]
		for range r.Intn(4) {
			n = spoiltMid(r, n, texts)
		}
		ways[midHeld(t, n)]++
		if t.Failed() {
			t.Fatalf("%s", brief(n))
		}
	}
	if ways[""] < 10000 {
		t.Errorf("only %d were read", ways[""])
	}
	for _, way := range []string{".", "high", "kind", "low", "metrics", "name", "notes", "pace", "target", "metrics/1", "metrics/0/goal", "metrics/1/kind", "metrics/0/zz", "notes/owner", "notes/a b", "notes/quay/pace", "notes/quay/", "notes/quay/a", "notes/quay/x", "notes/quay/metrics", "notes/quay/pace/x", "zz", "share", "quay/pace"} {
		if ways[way] < 3 {
			t.Errorf("the way %q was told %d times", way, ways[way])
		}
	}
}

// What is read as the one shape is not read as the other one.
func TestNoTreeIsOfTwoShapes(t *testing.T) {
	r := rand.New(rand.NewSource(89))
	bases, texts := midBases(), keptTexts()
	for range 5000 {
		n := bases[r.Intn(len(bases))]
		if r.Intn(2) == 0 {
			n = impl.FullTree(anyOrder(r))
		}
		n = spoiltMid(r, n, texts)
		_, full := impl.FullOf(n)
		_, mid := impl.MidOf(n)
		if fits := len(fullWays(n)) == 0; fits && (full != "" || mid == "") {
			t.Fatalf("%s: %q, %q", brief(n), full, mid)
		}
		if fits := len(midWays(n)) == 0; fits && (mid != "" || full == "") {
			t.Fatalf("%s: %q, %q", brief(n), full, mid)
		}
	}
}
