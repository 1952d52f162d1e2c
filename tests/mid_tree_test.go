package tests

import (
	"fmt"
	"math/rand"
	"reflect"
	"slices"
	"strconv"
	"testing"

	"loop.example/g00465/impl"
)

var newPace = impl.Pace{Up: 0, Down: 0, UpSpan: 0, DownSpan: 300}

func withPace(o order, p impl.Pace) order {
	o.Pace = p
	return o
}

// spanWord is a span of seconds in its one right writing.
func spanWord(n int) string {
	switch {
	case n > 0 && n%3600 == 0:
		return fmt.Sprintf("%dh", n/3600)
	case n > 0 && n%60 == 0:
		return fmt.Sprintf("%dm", n/60)
	}
	return fmt.Sprintf("%ds", n)
}

// paceWord is what a note keeps of a Pace.
func paceWord(p impl.Pace) string {
	return fmt.Sprintf(`{"down":%d,"downspan":"%s","up":%d,"upspan":"%s"}`, p.Down, spanWord(p.DownSpan), p.Up, spanWord(p.UpSpan))
}

// putAt is a map with x at that Key, or at a Key of a map within it, which comes to be where there is none.
func putAt(n node, x node, path ...string) node {
	have := model(n)
	if len(path) > 1 {
		within, in := have[path[0]]
		if !in {
			within = mapNode(nil)
		}
		x = putAt(within, x, path[1:]...)
	}
	have[path[0]] = x
	return mapOf(have)
}

// cutAt is a map without that Key, or with a map in it that is without it.
func cutAt(n node, path ...string) node {
	have := model(n)
	if len(path) > 1 {
		have[path[0]] = cutAt(have[path[0]], path[1:]...)
	} else {
		delete(have, path[0])
	}
	return mapOf(have)
}

// midModel is the middle shape made out of the full one by the test's own means.
func midModel(o order) node {
	n := cutAt(putAt(impl.FullTree(o), textNode("middle"), "kind"), "pace")
	if o.Pace != newPace {
		n = putAt(n, textNode(paceWord(o.Pace)), "notes", "quay/pace")
	}
	return n
}

func TestMidTree(t *testing.T) {
	webText := `{"high":9,"kind":"middle","low":2,"metrics":[{"goal":"500m","kind":"share","name":"cpu"},{"goal":"1500m","kind":"whole","name":"hits"}],"name":"web","notes":`
	rows := []struct {
		order order
		want  string
	}{
		{order{Name: "a", Target: "b", Low: 1, High: 1}, `{"high":1,"kind":"middle","low":1,"metrics":[],"name":"a","notes":{"quay/pace":"{\"down\":0,\"downspan\":\"0s\",\"up\":0,\"upspan\":\"0s\"}"},"target":"b"}`},
		{order{Name: "a", Target: "b", Low: 1000, High: 1000, Pace: newPace, Metrics: []metric{}, Notes: []note{}}, `{"high":1000,"kind":"middle","low":1000,"metrics":[],"name":"a","notes":{},"target":"b"}`},
		{webOrder(), webText + `{"owner":"me","quay/pace":"{\"down\":1,\"downspan\":\"1m\",\"up\":3,\"upspan\":\"30s\"}","team.x/y":""},"target":"pool"}`},
		{withPace(webOrder(), newPace), webText + `{"owner":"me","team.x/y":""},"target":"pool"}`},
		{withNotes(webOrder()), webText + `{"quay/pace":"{\"down\":1,\"downspan\":\"1m\",\"up\":3,\"upspan\":\"30s\"}"},"target":"pool"}`},
		{withPace(withNotes(webOrder()), newPace), webText + `{},"target":"pool"}`},
		{withPace(webOrder(), impl.Pace{Up: 1000, Down: 1000, UpSpan: 3599, DownSpan: 3600}), webText + `{"owner":"me","quay/pace":"{\"down\":1000,\"downspan\":\"1h\",\"up\":1000,\"upspan\":\"3599s\"}","team.x/y":""},"target":"pool"}`},
	}
	for _, r := range rows {
		got := impl.MidTree(r.order)
		wantTree(t, fmt.Sprintf("MidTree(%+v)", r.order), got, written(t, r.want))
		if impl.Braced(got) != r.want {
			t.Errorf("MidTree(%+v) is written %s", r.order, impl.Braced(got))
		}
		wantMid(t, got, r.order)
	}
}

// Only what is just PaceNew goes without saying: one field that is otherwise makes a note.
func TestMidTreeOfPacesNearlyNew(t *testing.T) {
	for _, change := range []func(p *impl.Pace){
		func(p *impl.Pace) { p.Up = 1 },
		func(p *impl.Pace) { p.Down = 1 },
		func(p *impl.Pace) { p.UpSpan = 1 },
		func(p *impl.Pace) { p.UpSpan = 300 },
		func(p *impl.Pace) { p.DownSpan = 0 },
		func(p *impl.Pace) { p.DownSpan = 299 },
		func(p *impl.Pace) { p.DownSpan = 301 },
		func(p *impl.Pace) { p.UpSpan, p.DownSpan = 300, 0 },
		func(p *impl.Pace) { p.Up, p.Down = 300, 300 },
	} {
		p := newPace
		change(&p)
		for _, o := range []order{withPace(webOrder(), p), withPace(fullOrder(), p), withPace(leastOrder(), p)} {
			got := impl.MidTree(o)
			wantTree(t, fmt.Sprintf("MidTree(%+v)", o), got, midModel(o))
			if kept := model(model(got)["notes"])["quay/pace"]; kept.S != paceWord(p) {
				t.Errorf("of %+v the note is %q", p, kept.S)
			}
			wantMid(t, got, o)
		}
	}
}

// The note has its place among the others by its bytes.
func TestMidTreeKeepsThePaceInItsPlace(t *testing.T) {
	for key, ahead := range map[string]bool{
		"A": true, "Z": true, "a": true, "pace": true, "q": true, "quay": true, "quay-": true, "quay-pace": true, "quay.pace": true, "qua": true,
		"quay0": false, "quayA": false, "quay_": false, "quay_/pace": false, "quays/": false, "quaypace": false, "r": false, "z": false,
	} {
		o := withNotes(webOrder(), noteOf(key, "x"))
		want := []string{key, "quay/pace"}
		if !ahead {
			slices.Reverse(want)
		}
		got := model(impl.MidTree(o))["notes"]
		if !slices.Equal(got.Keys, want) || !impl.TreeOk(got) {
			t.Errorf("the notes beside %q are %s", key, brief(got))
		}
		wantMid(t, impl.MidTree(o), o)
	}
}

// Whatever of it is wrong: the zero tree, not a part of one.
func TestMidTreeOfNoOrder(t *testing.T) {
	zero := func(o order) {
		t.Helper()
		if got := impl.MidTree(o); !reflect.DeepEqual(tidy(got), node{}) {
			t.Errorf("MidTree(%.200s) = %s, want zero", fmt.Sprintf("%+v", o), brief(got))
		}
	}
	zero(order{})
	zero(order{Pace: newPace})
	for _, change := range orderFaults() {
		for _, pace := range []impl.Pace{newPace, webOrder().Pace} {
			o := withPace(anew(webOrder()), pace)
			change(&o)
			zero(o)
		}
	}
}

// What the middle shape can't say is kept: each order is read as it was.
func TestMidShapeIsReadAsItWas(t *testing.T) {
	r := rand.New(rand.NewSource(8))
	told := map[string]int{}
	for range 20000 {
		o := anyOrder(r)
		if r.Intn(3) == 0 {
			o.Pace = newPace
		}
		told[fmt.Sprintf("%v %v", orderFits(o), o.Pace == newPace)]++
		tree := impl.MidTree(o)
		if !orderFits(o) {
			wantTree(t, "MidTree of no order", tree, node{})
			continue
		}
		wantTree(t, fmt.Sprintf("MidTree(%+v)", o), tree, midModel(o))
		if !impl.TreeOk(tree) {
			t.Fatalf("MidTree(%+v) is not TreeOk", o)
		}
		if got, way := impl.MidOf(tree); way != "" || !impl.OrderSame(got, o) {
			t.Fatalf("MidOf(MidTree(%+v)) = %+v, %q", o, got, way)
		}
	}
	for _, fits := range []bool{true, false} {
		for _, asNew := range []bool{true, false} {
			if what := strconv.FormatBool(fits) + " " + strconv.FormatBool(asNew); told[what] < 1000 {
				t.Errorf("too few of %s: %v", what, told)
			}
		}
	}
}

// Each span and each number of a Pace is told in its own way, and is read back.
func TestEachPaceIsKept(t *testing.T) {
	for span := range 3601 {
		for _, p := range []impl.Pace{{Up: span % 1001, Down: (span * 7) % 1001, UpSpan: span, DownSpan: 3600 - span}, {DownSpan: span}, {UpSpan: span, DownSpan: 300}} {
			o := withPace(leastOrder(), p)
			tree := impl.MidTree(o)
			if got, way := impl.MidOf(tree); way != "" || !impl.OrderSame(got, o) {
				t.Fatalf("MidOf(MidTree(%+v)) = %+v, %q", o, got, way)
			}
			if kept := model(model(tree)["notes"]); p == newPace && len(kept) != 0 || p != newPace && kept["quay/pace"].S != paceWord(p) {
				t.Fatalf("of %+v is kept %v", p, kept)
			}
		}
	}
}
