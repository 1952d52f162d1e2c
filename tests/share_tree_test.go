package tests

import (
	"fmt"
	"math/rand"
	"reflect"
	"slices"
	"strings"
	"testing"

	"loop.example/g00465/impl"
)

func withMetrics(o order, list ...metric) order {
	o.Metrics = list
	return o
}

// goalWord is a goal in its one right writing.
func goalWord(n int) string {
	switch {
	case n%1000000 == 0:
		return fmt.Sprintf("%dk", n/1000000)
	case n%1000 == 0:
		return fmt.Sprint(n / 1000)
	}
	return fmt.Sprintf("%dm", n)
}

// metricsWord is what a note keeps of metrics.
func metricsWord(list ...metric) string {
	var parts []string
	for _, m := range list {
		parts = append(parts, fmt.Sprintf(`{"goal":"%s","kind":"%s","name":"%s"}`, goalWord(m.Goal), []string{"", "share", "mean", "whole"}[m.Kind], m.Name))
	}
	return "[" + strings.Join(parts, ",") + "]"
}

// shareIn is what the plain shape says of a metric; 0, where it can't.
func shareIn(m metric) int {
	if m.Name != "cpu" || m.Kind != impl.MtShare || m.Goal < 10 || m.Goal > 10000 || m.Goal%10 > 0 {
		return 0
	}
	return m.Goal / 10
}

// plainModel is the plain shape made out of the middle one by the test's own means.
func plainModel(o order) node {
	n := cutAt(putAt(midModel(o), textNode("plain"), "kind"), "metrics")
	var others []metric
	for _, m := range o.Metrics {
		if share := shareIn(m); share > 0 {
			n = putAt(n, intNode(share), "share")
		} else {
			others = append(others, m)
		}
	}
	if len(others) > 0 {
		n = putAt(n, textNode(metricsWord(others...)), "notes", "quay/metrics")
	}
	return n
}

func TestPlainTree(t *testing.T) {
	const (
		pace = `"quay/pace":"{\"down\":1,\"downspan\":\"1m\",\"up\":3,\"upspan\":\"30s\"}"`
		hits = `{\"goal\":\"1500m\",\"kind\":\"whole\",\"name\":\"hits\"}`
		head = `{"high":9,"kind":"plain","low":2,"name":"web","notes":`
	)
	web, still := webOrder(), withPace(webOrder(), newPace)
	rows := []struct {
		order order
		want  string
	}{
		{order{Name: "a", Target: "b", Low: 1, High: 1, Pace: newPace}, `{"high":1,"kind":"plain","low":1,"name":"a","notes":{},"target":"b"}`},
		{order{Name: "a", Target: "b", Low: 1000, High: 1000, Metrics: []metric{cpuOf(10000)}, Notes: []note{}}, `{"high":1000,"kind":"plain","low":1000,"name":"a","notes":{"quay/pace":"{\"down\":0,\"downspan\":\"0s\",\"up\":0,\"upspan\":\"0s\"}"},"share":1000,"target":"b"}`},
		{web, head + `{"owner":"me","quay/metrics":"[` + hits + `]",` + pace + `,"team.x/y":""},"share":50,"target":"pool"}`},
		{still, head + `{"owner":"me","quay/metrics":"[` + hits + `]","team.x/y":""},"share":50,"target":"pool"}`},
		{withMetrics(web), head + `{"owner":"me",` + pace + `,"team.x/y":""},"target":"pool"}`},
		{withMetrics(web, cpuOf(10)), head + `{"owner":"me",` + pace + `,"team.x/y":""},"share":1,"target":"pool"}`},
		{withNotes(withMetrics(still, cpuOf(10))), head + `{},"share":1,"target":"pool"}`},
		{withMetrics(withNotes(still), web.Metrics[1]), head + `{"quay/metrics":"[` + hits + `]"},"target":"pool"}`},
		{withMetrics(withNotes(still), cpuOf(505), web.Metrics[1]), head + `{"quay/metrics":"[{\"goal\":\"505m\",\"kind\":\"share\",\"name\":\"cpu\"},` + hits + `]"},"target":"pool"}`},
		{withMetrics(withNotes(still), metricOf("a", 1, 500), metricOf("cpu", 2, 500)), head + `{"quay/metrics":"[{\"goal\":\"500m\",\"kind\":\"share\",\"name\":\"a\"},{\"goal\":\"500m\",\"kind\":\"mean\",\"name\":\"cpu\"}]"},"target":"pool"}`},
		{withMetrics(withNotes(still), metricOf("a", 2, 1000000), cpuOf(20), metricOf("cpus", 1, 30), metricOf("z", 3, 1000)), head + `{"quay/metrics":"[{\"goal\":\"1k\",\"kind\":\"mean\",\"name\":\"a\"},{\"goal\":\"30m\",\"kind\":\"share\",\"name\":\"cpus\"},{\"goal\":\"1\",\"kind\":\"whole\",\"name\":\"z\"}]"},"share":2,"target":"pool"}`},
	}
	for _, r := range rows {
		got := impl.PlainTree(r.order)
		wantTree(t, fmt.Sprintf("PlainTree(%+v)", r.order), got, written(t, r.want))
		if impl.Braced(got) != r.want {
			t.Errorf("PlainTree(%+v) is written %s", r.order, impl.Braced(got))
		}
		wantPlainOrder(t, got, r.order)
	}
}

// wantPlainKept asks for the tree of an order, and that it is read as it was.
func wantPlainKept(t *testing.T, o order) {
	t.Helper()
	got := impl.PlainTree(o)
	wantTree(t, fmt.Sprintf("PlainTree(%+v)", o), got, plainModel(o))
	if !impl.TreeOk(got) {
		t.Fatalf("PlainTree(%+v) is not TreeOk", o)
	}
	wantPlainOrder(t, got, o)
}

// Each goal near what a share can say: the share goes without a note, what is no share is kept in one.
func TestPlainTreeOfEachShare(t *testing.T) {
	hits := metricOf("hits", impl.MtWhole, 1500)
	for goal := 1; goal <= 10100; goal++ {
		o := withMetrics(leastOrder(), cpuOf(goal))
		if goal%3 == 0 {
			o = withMetrics(leastOrder(), cpuOf(goal), hits)
		}
		wantPlainKept(t, o)
		have := model(impl.PlainTree(o))
		share, said := have["share"]
		if want := goal%10 == 0 && goal <= 10000; said != want || said && (share.Kind != impl.NdInt || 10*share.N != goal) {
			t.Fatalf("of a goal of %d the share is %v, %v", goal, share, said)
		}
		if _, kept := model(have["notes"])["quay/metrics"]; kept != (!said || goal%3 == 0) {
			t.Fatalf("of a goal of %d the notes are %s", goal, brief(have["notes"]))
		}
	}
}

// Only what is a share is taken from among the metrics, wherever it stands; the others stay in their order.
func TestPlainTreeOfMetricsAboutTheShare(t *testing.T) {
	ahead, behind := namedMetrics("a", "b", "cpt"), namedMetrics("cpu-", "cpu0", "d")
	for _, cpu := range []metric{cpuOf(10), cpuOf(500), cpuOf(10000), cpuOf(5), cpuOf(10010), cpuOf(mostGoal), metricOf("cpu", 2, 500), metricOf("cpu", 3, 10)} {
		for i := range 4 {
			for j := range 4 - i {
				others := slices.Concat(ahead[:i], behind[:j])
				list := slices.Concat(ahead[:i], []metric{cpu}, behind[:j])
				o := withMetrics(webOrder(), list...)
				wantPlainKept(t, o)
				want := others
				if shareIn(cpu) == 0 {
					want = list
				}
				kept, in := model(model(impl.PlainTree(o))["notes"])["quay/metrics"]
				if in != (len(want) > 0) || in && kept.S != metricsWord(want...) {
					t.Errorf("of %+v is kept %q", list, kept.S)
				}
				wantPlainKept(t, withMetrics(webOrder(), others...))
			}
		}
	}
}

// Both notes have their places among the others by their bytes.
func TestPlainTreeKeepsNotesInTheirPlaces(t *testing.T) {
	rows := map[int][]string{
		0: {"A", "Z", "a", "metrics", "pace", "q", "qua", "quay", "quay-", "quay-metrics", "quay.pace"},
		2: {"quay0", "quayA", "quay_", "quay_/metrics", "quaymetrics", "quaypace", "quays/", "r", "z"},
	}
	for at, keys := range rows {
		for _, key := range keys {
			o := withNotes(webOrder(), noteOf(key, "x"))
			got := model(impl.PlainTree(o))["notes"]
			if want := slices.Insert([]string{"quay/metrics", "quay/pace"}, at, key); !slices.Equal(got.Keys, want) {
				t.Errorf("the notes beside %q are %s", key, brief(got))
			}
			wantPlainKept(t, o)
			wantPlainKept(t, withPace(o, newPace))
			wantPlainKept(t, withMetrics(o, cpuOf(10)))
			wantPlainKept(t, withMetrics(withPace(o, newPace), cpuOf(10)))
		}
	}
	o := withNotes(fullOrder(), keyedNotes("a", "quay", "quay0", "z")...)
	if got := model(impl.PlainTree(o))["notes"].Keys; !slices.Equal(got, []string{"a", "quay", "quay/metrics", "quay/pace", "quay0", "z"}) {
		t.Errorf("the notes are %v", got)
	}
	wantPlainKept(t, o)
}

// The longest list that there is to keep is kept in one text.
func TestPlainTreeOfTheLongestMetrics(t *testing.T) {
	var list []metric
	for _, last := range []string{"a", "b", "c", "d"} {
		list = append(list, metricOf(strings.Repeat("m", 19)+last, impl.MtShare, 999999))
	}
	o := withMetrics(fullOrder(), list...)
	wantPlainKept(t, o)
	if kept := model(model(impl.PlainTree(o))["notes"])["quay/metrics"]; len(kept.S) != 257 {
		t.Errorf("the note is %d bytes: %s", len(kept.S), kept.S)
	}
}

// Whatever of it is wrong: the zero tree, not a part of one.
func TestPlainTreeOfNoOrder(t *testing.T) {
	zero := func(o order) {
		t.Helper()
		for n := range 3 {
			if got := impl.Shape(o, n); !reflect.DeepEqual(tidy(got), node{}) {
				t.Errorf("Shape(%.200s, %d) = %s, want zero", fmt.Sprintf("%+v", o), n, brief(got))
			}
		}
		if got := impl.PlainTree(o); !reflect.DeepEqual(tidy(got), node{}) {
			t.Errorf("PlainTree(%.200s) = %s, want zero", fmt.Sprintf("%+v", o), brief(got))
		}
	}
	zero(order{})
	zero(order{Pace: newPace})
	for _, change := range orderFaults() {
		for _, pace := range []impl.Pace{newPace, webOrder().Pace} {
			o := withPace(anew(webOrder()), pace)
			change(&o)
			zero(o)
		}
	}
	for _, list := range [][]metric{{cpuOf(10), cpuOf(20)}, {cpuOf(10), cpuOf(10)}, {cpuOf(0)}, {cpuOf(mostGoal + 10)}, {metricOf("d", 1, 1), cpuOf(10)}, {cpuOf(10), {}}, append(namedMetrics("a", "b", "c"), cpuOf(10), metricOf("d", 1, 1))} {
		zero(withMetrics(webOrder(), list...))
	}
	zero(withNotes(webOrder(), noteOf("quay/metrics", "[]")))
	zero(withNotes(webOrder(), noteOf("quay/metrics", metricsWord(webOrder().Metrics[1]))))
}

// anyShared is any order, of which the metric `cpu` is there more often than not, mostly as a share.
func anyShared(r *rand.Rand) order {
	o := anyOrder(r)
	if r.Intn(3) == 0 {
		o.Pace = newPace
	}
	if r.Intn(4) > 0 {
		cpu := metricOf("cpu", mostly(r, []int{1, 1, 1, 2, 3}, []int{0, 4}), mostly(r, []int{10 * numberNear(r, 1, 1000), 10 * numberNear(r, 1, 1000), numberNear(r, 1, 10010), numberNear(r, 1, mostGoal)}, []int{0, -10}))
		o.Metrics = append(o.Metrics[:min(len(o.Metrics), r.Intn(4))], cpu)
		if r.Intn(20) > 0 {
			slices.SortFunc(o.Metrics, byMetricName)
		}
	}
	return o
}

// What the plain shape can't say is kept: each order is read as it was.
func TestPlainShapeIsReadAsItWas(t *testing.T) {
	r := rand.New(rand.NewSource(9))
	told := map[string]int{}
	for range 20000 {
		o := anyShared(r)
		if !orderFits(o) {
			told["no order"]++
			wantTree(t, "PlainTree of no order", impl.PlainTree(o), node{})
			continue
		}
		wantPlainKept(t, o)
		have := model(impl.PlainTree(o))
		notes := model(have["notes"])
		_, share := have["share"]
		_, metrics := notes["quay/metrics"]
		_, pace := notes["quay/pace"]
		told[fmt.Sprintf("share %v, metrics %v, pace %v", share, metrics, pace)]++
		if t.Failed() {
			t.FailNow()
		}
	}
	if told["no order"] < 1000 || len(told) != 9 {
		t.Error(told)
	}
	for what, n := range told {
		if n < 100 {
			t.Errorf("%d of %s", n, what)
		}
	}
}
