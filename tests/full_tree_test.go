package tests

import (
	"fmt"
	"math"
	"math/rand"
	"reflect"
	"slices"
	"strings"
	"testing"

	"loop.example/g00465/impl"
)

// written is the tree that a braced text is, by the library's reader.
func written(t *testing.T, s string) node {
	t.Helper()
	tree, alike := jsonTree(t, s)
	if alike >= 0 {
		t.Fatalf("%s has two alike Keys", s)
	}
	return tree
}

func TestMetricTree(t *testing.T) {
	rows := []struct {
		metric metric
		want   string
	}{
		{metricOf("cpu", impl.MtShare, 500), `{"goal":"500m","kind":"share","name":"cpu"}`},
		{metricOf("hits", impl.MtMean, 1500), `{"goal":"1500m","kind":"mean","name":"hits"}`},
		{metricOf("a-1", impl.MtWhole, 2000), `{"goal":"2","kind":"whole","name":"a-1"}`},
		{metricOf("a", impl.MtWhole, 1), `{"goal":"1m","kind":"whole","name":"a"}`},
		{metricOf("a", impl.MtShare, mostGoal), `{"goal":"1k","kind":"share","name":"a"}`},
		{metricOf("a", impl.MtShare, mostGoal-1), `{"goal":"999999m","kind":"share","name":"a"}`},

		{metricOf("a", impl.MtShare, mostGoal+1), `{"goal":"1000001m","kind":"share","name":"a"}`},
		{metricOf("a", impl.MtShare, impl.MaxInt), `{"goal":"1000000k","kind":"share","name":"a"}`},
		{metricOf("a", impl.MtShare, 0), `{"goal":"0","kind":"share","name":"a"}`},
		{metricOf("a", impl.MtShare, -1), `{"goal":"","kind":"share","name":"a"}`},
		{metricOf("a", impl.MtShare, impl.MaxInt+1), `{"goal":"","kind":"share","name":"a"}`},
		{metricOf("a", impl.MtShare, math.MinInt), `{"goal":"","kind":"share","name":"a"}`},
		{metricOf("", impl.MtMean, 1000), `{"goal":"1","kind":"mean","name":""}`},
		{metricOf("No Name\n", impl.MtMean, 1000), `{"goal":"1","kind":"mean","name":"No Name\n"}`},
		{metric{}, `{"goal":"0","kind":"none","name":""}`},
	}
	for _, r := range rows {
		wantTree(t, fmt.Sprintf("MetricTree(%+v)", r.metric), impl.MetricTree(r.metric), written(t, r.want))
	}
	kinds := map[int]string{1: "share", 2: "mean", 3: "whole", 0: "none", 4: "none", -1: "none", 257: "none", 1<<32 + 1: "none", math.MinInt: "none", math.MaxInt: "none"}
	for kind, want := range kinds {
		wantTree(t, "kind", impl.MetricTree(metricOf("a", kind, 1000)), written(t, `{"goal":"1","kind":"`+want+`","name":"a"}`))
	}
}

func TestPaceTree(t *testing.T) {
	rows := []struct {
		pace impl.Pace
		want string
	}{
		{impl.PaceNew(), `{"down":0,"downspan":"5m","up":0,"upspan":"0s"}`},
		{impl.Pace{}, `{"down":0,"downspan":"0s","up":0,"upspan":"0s"}`},
		{impl.Pace{Up: 3, Down: 1, UpSpan: 30, DownSpan: 60}, `{"down":1,"downspan":"1m","up":3,"upspan":"30s"}`},
		{impl.Pace{Up: 1000, Down: 999, UpSpan: 3600, DownSpan: 3599}, `{"down":999,"downspan":"3599s","up":1000,"upspan":"1h"}`},

		{impl.Pace{Up: 1001, Down: -1, UpSpan: 3601, DownSpan: 7200}, `{"down":-1,"downspan":"2h","up":1001,"upspan":"3601s"}`},
		{impl.Pace{UpSpan: mostSeconds, DownSpan: mostSeconds + 1}, `{"down":0,"downspan":"","up":0,"upspan":"1000000s"}`},
		{impl.Pace{UpSpan: -1, DownSpan: math.MinInt}, `{"down":0,"downspan":"","up":0,"upspan":""}`},
	}
	for _, r := range rows {
		wantTree(t, fmt.Sprintf("PaceTree(%+v)", r.pace), impl.PaceTree(r.pace), written(t, r.want))
	}
	far := impl.PaceTree(impl.Pace{Up: math.MaxInt, Down: math.MinInt})
	wantTree(t, "far ints", far, mapNode([]string{"down", "downspan", "up", "upspan"}, intNode(math.MinInt), textNode("0s"), intNode(math.MaxInt), textNode("0s")))
}

func TestFullTree(t *testing.T) {
	rows := []struct {
		order order
		want  string
	}{
		{order{Name: "a", Target: "b", Low: 1, High: 1}, `{"high":1,"kind":"full","low":1,"metrics":[],"name":"a","notes":{},"pace":{"down":0,"downspan":"0s","up":0,"upspan":"0s"},"target":"b"}`},
		{order{Name: "a", Target: "b", Low: 1000, High: 1000, Pace: impl.PaceNew(), Metrics: []metric{}, Notes: []note{}}, `{"high":1000,"kind":"full","low":1000,"metrics":[],"name":"a","notes":{},"pace":{"down":0,"downspan":"5m","up":0,"upspan":"0s"},"target":"b"}`},
		{webOrder(), `{"high":9,"kind":"full","low":2,"metrics":[{"goal":"500m","kind":"share","name":"cpu"},{"goal":"1500m","kind":"whole","name":"hits"}],"name":"web","notes":{"owner":"me","team.x/y":""},"pace":{"down":1,"downspan":"1m","up":3,"upspan":"30s"},"target":"pool"}`},
		{fullOrder(), `{"high":9,"kind":"full","low":2,"metrics":[{"goal":"1m","kind":"share","name":"a"},{"goal":"2m","kind":"mean","name":"a-1"},{"goal":"1k","kind":"whole","name":"aa"},{"goal":"10m","kind":"share","name":"b"}],"name":"web","notes":{"A":"1","a":" ~","a-b":"` + strings.Repeat("x", 40) + `","aa":""},"pace":{"down":1,"downspan":"1m","up":3,"upspan":"30s"},"target":"pool"}`},
	}
	for _, r := range rows {
		got := impl.FullTree(r.order)
		wantTree(t, fmt.Sprintf("FullTree(%+v)", r.order), got, written(t, r.want))
		if impl.Braced(got) != r.want {
			t.Errorf("FullTree(%+v) is written %s", r.order, impl.Braced(got))
		}
	}
}

// orderFaults are changes of which each makes an ordinary order none.
func orderFaults() []func(o *order) {
	return []func(o *order){
		func(o *order) { o.Name = "" },
		func(o *order) { o.Target = "A" },
		func(o *order) { o.Low = 0 },
		func(o *order) { o.Low = o.High + 1 },
		func(o *order) { o.High = 1001 },
		func(o *order) { o.Pace.Up = -1 },
		func(o *order) { o.Pace.DownSpan = 3601 },
		func(o *order) { o.Metrics[0].Kind = 0 },
		func(o *order) { o.Metrics[1].Goal = mostGoal + 1 },
		func(o *order) { slices.Reverse(o.Metrics) },
		func(o *order) { o.Metrics = namedMetrics("a", "b", "c", "d", "e") },
		func(o *order) { slices.Reverse(o.Notes) },
		func(o *order) { o.Notes[1].Key = "quay/pace" },
		func(o *order) { o.Notes[0].Text = strings.Repeat("x", 41) },
		func(o *order) { o.Notes = keyedNotes("a", "b", "c", "d", "e") },
	}
}

// Whatever of it is wrong: the zero tree, not a part of one.
func TestFullTreeOfNoOrder(t *testing.T) {
	zero := func(o order) {
		t.Helper()
		if got := impl.FullTree(o); !reflect.DeepEqual(tidy(got), node{}) {
			t.Errorf("FullTree(%.200s) = %s, want zero", fmt.Sprintf("%+v", o), brief(got))
		}
	}
	zero(order{})
	for _, change := range orderFaults() {
		o := anew(webOrder())
		change(&o)
		zero(o)
	}
}

// What is told is read as it was: whole orders, and each of their parts alone.
func TestFullShapeIsReadAsItWas(t *testing.T) {
	r := rand.New(rand.NewSource(7))
	told := map[bool]int{}
	for range 20000 {
		o := anyOrder(r)
		tree := impl.FullTree(o)
		told[orderFits(o)]++
		if !orderFits(o) {
			wantTree(t, "FullTree of no order", tree, node{})
			continue
		}
		if !impl.TreeOk(tree) {
			t.Fatalf("FullTree(%+v) is not TreeOk", o)
		}
		if got, way := impl.FullOf(tree); way != "" || !impl.OrderSame(got, o) {
			t.Fatalf("FullOf(FullTree(%+v)) = %+v, %q", o, got, way)
		}
		partsAreReadAsTheyWere(t, o, tree)
	}
	if told[true] < 2000 || told[false] < 2000 {
		t.Errorf("too few of one kind: %v", told)
	}
}

func partsAreReadAsTheyWere(t *testing.T, o order, tree node) {
	t.Helper()
	var trees []node
	for _, m := range o.Metrics {
		trees = append(trees, impl.MetricTree(m))
	}
	if got, way := impl.MetricsOf(listNode(trees...)); way != "" || !slices.Equal(got, o.Metrics) {
		t.Fatalf("MetricsOf of the trees of %+v = %+v, %q", o.Metrics, got, way)
	}
	slices.Reverse(trees)
	if got, way := impl.MetricsOf(listNode(trees...)); way != "" || !slices.Equal(got, o.Metrics) {
		t.Fatalf("MetricsOf of the trees of %+v, the last one first = %+v, %q", o.Metrics, got, way)
	}
	if got, way := impl.PaceOf(impl.PaceTree(o.Pace)); way != "" || got != o.Pace {
		t.Fatalf("PaceOf(PaceTree(%+v)) = %+v, %q", o.Pace, got, way)
	}
	notes, _ := impl.Get(tree, "notes")
	if got, way := impl.NotesOf(notes); way != "" || !slices.Equal(got, o.Notes) {
		t.Fatalf("NotesOf of the notes of %+v = %+v, %q", o.Notes, got, way)
	}
}

// Every goal is told in its own way, and so is every span; all of them are read back.
func TestEachGoalAndEachSpanIsReadAsItWas(t *testing.T) {
	for goal := 1; goal <= mostGoal; goal += 1 + goal/1500 {
		m := metricOf("a", goal%3+1, goal)
		if got, way := impl.MetricsOf(listNode(impl.MetricTree(m))); way != "" || !slices.Equal(got, []metric{m}) {
			t.Fatalf("MetricsOf of the tree of %+v = %+v, %q", m, got, way)
		}
	}
	for span := range 3601 {
		p := impl.Pace{Up: span % 1001, Down: (span * 7) % 1001, UpSpan: span, DownSpan: 3600 - span}
		if got, way := impl.PaceOf(impl.PaceTree(p)); way != "" || got != p {
			t.Fatalf("PaceOf(PaceTree(%+v)) = %+v, %q", p, got, way)
		}
	}
}
