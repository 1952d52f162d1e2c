package tests

import (
	"fmt"
	"reflect"
	"slices"
	"strings"
	"testing"

	"loop.example/g00465/impl"
)

type (
	order  = impl.Order
	metric = impl.Metric
	note   = impl.Note
)

func metricOf(name string, kind int, goal int) metric {
	return metric{Name: name, Kind: kind, Goal: goal}
}

func noteOf(key string, text string) note { return note{Key: key, Text: text} }

// webOrder is an ordinary order, made anew by each call.
func webOrder() order {
	return order{
		Name: "web", Target: "pool", Low: 2, High: 9,
		Metrics: []metric{metricOf("cpu", impl.MtShare, 500), metricOf("hits", impl.MtWhole, 1500)},
		Pace:    impl.Pace{Up: 3, Down: 1, UpSpan: 30, DownSpan: 60},
		Notes:   []note{noteOf("owner", "me"), noteOf("team.x/y", "")},
	}
}

func fullOrder() order {
	o := webOrder()
	o.Metrics = []metric{metricOf("a", 1, 1), metricOf("a-1", 2, 2), metricOf("aa", 3, mostGoal), metricOf("b", 1, 10)}
	o.Notes = []note{noteOf("A", "1"), noteOf("a", " ~"), noteOf("a-b", strings.Repeat("x", 40)), noteOf("aa", "")}
	return o
}

func wantOrder(t *testing.T, what string, o order, want bool) {
	t.Helper()
	if got := impl.OrderOk(o); got != want {
		t.Errorf("%s: OrderOk(%.200s) = %v, want %v", what, fmt.Sprintf("%+v", o), got, want)
	}
}

// wantChanged asks for ordinary orders that are changed in one thing.
func wantChanged(t *testing.T, what string, want bool, change func(o *order)) {
	t.Helper()
	for _, o := range []order{webOrder(), fullOrder()} {
		change(&o)
		wantOrder(t, what, o, want)
	}
}

func TestOrderOk(t *testing.T) {
	wantChanged(t, "as it is", true, func(o *order) {})
	wantChanged(t, "no metrics, no notes", true, func(o *order) { o.Metrics, o.Notes = nil, nil })
	wantChanged(t, "empty lists", true, func(o *order) { o.Metrics, o.Notes = []metric{}, []note{} })
	wantChanged(t, "PaceNew", true, func(o *order) { o.Pace = impl.PaceNew() })
	wantChanged(t, "the zero pace", true, func(o *order) { o.Pace = impl.Pace{} })
	wantOrder(t, "bare", order{Name: "a", Target: "a", Low: 1, High: 1}, true)
	wantOrder(t, "zero", order{}, false)
	wantOrder(t, "no Name", order{Target: "a", Low: 1, High: 1}, false)
	wantOrder(t, "no Target", order{Name: "a", Low: 1, High: 1}, false)
}

func TestOrderOkAsksForNames(t *testing.T) {
	for _, s := range goodNames() {
		wantChanged(t, "Name", true, func(o *order) { o.Name = s })
		wantChanged(t, "Target", true, func(o *order) { o.Target = s })
		wantChanged(t, "both", true, func(o *order) { o.Name, o.Target = s, s })
		wantChanged(t, "Name of a metric", true, func(o *order) { o.Metrics = []metric{metricOf(s, 1, 1)} })
	}
	for _, s := range badNames() {
		wantChanged(t, "Name", false, func(o *order) { o.Name = s })
		wantChanged(t, "Target", false, func(o *order) { o.Target = s })
		wantChanged(t, "Name of the only metric", false, func(o *order) { o.Metrics = []metric{metricOf(s, 1, 1)} })
		wantChanged(t, "Name of the first metric", false, func(o *order) { o.Metrics[0].Name = s })
		wantChanged(t, "Name of the last metric", false, func(o *order) { o.Metrics[len(o.Metrics)-1].Name = s })
	}
}

func TestOrderOkLowAndHigh(t *testing.T) {
	for low := range edges(1, 1000) {
		for high := range edges(1, 1000) {
			want := low >= 1 && low <= high && high <= 1000
			wantChanged(t, "Low, High", want, func(o *order) { o.Low, o.High = low, high })
		}
		wantChanged(t, "alike", low >= 1 && low <= 1000, func(o *order) { o.Low, o.High = low, low })
	}
	wantChanged(t, "1 to 1000", true, func(o *order) { o.Low, o.High = 1, impl.MaxMany })
	wantChanged(t, "1 to 1001", false, func(o *order) { o.Low, o.High = 1, impl.MaxMany+1 })
	wantChanged(t, "0 to 1", false, func(o *order) { o.Low, o.High = 0, 1 })
	wantChanged(t, "0 to 0", false, func(o *order) { o.Low, o.High = 0, 0 })
	wantChanged(t, "5 to 5", true, func(o *order) { o.Low, o.High = 5, 5 })
	wantChanged(t, "6 to 5", false, func(o *order) { o.Low, o.High = 6, 5 })
}

// Whichever of the metrics it is.
func TestOrderOkAsksForEachMetric(t *testing.T) {
	for at := range impl.MaxMetrics {
		for kind, ok := range edges(1, 3) {
			o := fullOrder()
			o.Metrics[at].Kind = kind
			wantOrder(t, "Kind", o, ok)
		}
		for goal, ok := range edges(1, mostGoal) {
			o := fullOrder()
			o.Metrics[at].Goal = goal
			wantOrder(t, "Goal", o, ok)
		}
		for _, m := range []metric{{}, {Name: "a"}, metricOf("", 1, 1), metricOf("a", 0, 1), metricOf("a", 1, 0)} {
			o := fullOrder()
			o.Metrics[at] = m
			wantOrder(t, "metric", o, false)
		}
	}
}

func TestOrderOkAsksForThePace(t *testing.T) {
	for n, ok := range edges(0, 1000) {
		wantChanged(t, "Up", ok, func(o *order) { o.Pace.Up = n })
		wantChanged(t, "Down", ok, func(o *order) { o.Pace.Down = n })
	}
	for n, ok := range edges(0, 3600) {
		wantChanged(t, "UpSpan", ok, func(o *order) { o.Pace.UpSpan = n })
		wantChanged(t, "DownSpan", ok, func(o *order) { o.Pace.DownSpan = n })
	}
}

func namedMetrics(names ...string) []metric {
	var out []metric
	for i, s := range names {
		out = append(out, metricOf(s, i%3+1, i+1))
	}
	return out
}

func keyedNotes(keys ...string) []note {
	var out []note
	for i, s := range keys {
		out = append(out, noteOf(s, strings.Repeat("t", i)))
	}
	return out
}

// What ascends by bytes in both lists alike, in names that may stand in either.
func TestOrderOkAscending(t *testing.T) {
	rows := []struct {
		names []string
		want  bool
	}{
		{nil, true},
		{[]string{"a"}, true},
		{[]string{"a", "b"}, true},
		{[]string{"b", "a"}, false},
		{[]string{"a", "a"}, false},
		{[]string{"a", "aa"}, true},
		{[]string{"aa", "a"}, false},
		{[]string{"a", "a-", "a0", "aa"}, true},
		{[]string{"a-", "a"}, false},
		{[]string{"a0", "a-"}, false},
		{[]string{"aa", "a0"}, false},
		{[]string{"a10", "a2"}, true},
		{[]string{"a2", "a10"}, false},
		{[]string{"b", "aaa"}, false},
		{[]string{"aaa", "b"}, true},
		{[]string{"a", "b", "c", "d"}, true},
		{[]string{"a", "b", "d", "c"}, false},
		{[]string{"a", "c", "b", "d"}, false},
		{[]string{"b", "a", "c", "d"}, false},
		{[]string{"d", "c", "b", "a"}, false},
		{[]string{"b", "c", "d", "a"}, false},
		{[]string{"a", "a", "b", "c"}, false},
		{[]string{"a", "b", "b", "c"}, false},
		{[]string{"a", "b", "c", "c"}, false},
		{[]string{"a", "b", "a"}, false},
		{[]string{"a", "b", "c", "a"}, false},
		{[]string{"a", "a", "a", "a"}, false},
		{[]string{"a", "b", "c", "d", "e"}, false},
		{[]string{"a", "b", "c", "d", "e", "f"}, false},
		{[]string{"a", "b", "c", "d", "d"}, false},
		{[]string{"", "a"}, false},
	}
	for _, r := range rows {
		wantChanged(t, "metrics", r.want, func(o *order) { o.Metrics = namedMetrics(r.names...) })
		wantChanged(t, "notes", r.want, func(o *order) { o.Notes = keyedNotes(r.names...) })
		wantChanged(t, "both", r.want, func(o *order) { o.Metrics, o.Notes = namedMetrics(r.names...), keyedNotes(r.names...) })
	}
	alike := []metric{metricOf("a", 1, 1), metricOf("a", 1, 1)}
	wantChanged(t, "the same metric twice", false, func(o *order) { o.Metrics = alike })
	wantChanged(t, "the same note twice", false, func(o *order) { o.Notes = []note{noteOf("a", "x"), noteOf("a", "x")} })
	wantChanged(t, "great letters ahead of small ones", true, func(o *order) { o.Notes = keyedNotes("B", "a") })
	wantChanged(t, "small letters ahead of great ones", false, func(o *order) { o.Notes = keyedNotes("a", "B") })
	wantChanged(t, "by - . / digit _", true, func(o *order) { o.Notes = keyedNotes("a-", "a.", "a/", "a0") })
	wantChanged(t, "by / .", false, func(o *order) { o.Notes = keyedNotes("a/", "a.") })
}

func TestOrderOkHowManyMetricsAndNotes(t *testing.T) {
	for n := range 40 {
		var names []string
		for i := range n {
			names = append(names, fmt.Sprintf("n%02d", i))
		}
		wantChanged(t, "metrics", n <= 4, func(o *order) { o.Metrics = namedMetrics(names...) })
		wantChanged(t, "notes", n <= 4, func(o *order) { o.Notes = keyedNotes(names...) })
	}
	wantChanged(t, "very many metrics", false, func(o *order) { o.Metrics = make([]metric, 100000) })
	wantChanged(t, "very many notes", false, func(o *order) { o.Notes = make([]note, 100000) })
}

func TestOrderOkKeysOfNotes(t *testing.T) {
	for _, key := range []string{
		"quay", "quay-", "quay.", "quay_", "quay0", "quaya", "quays/pace", "quay.a/b", "Quay/", "Quay/pace", "QUAY/pace", "qua/y", "quai/x", "qay/", "q/uay/",
		"a/quay", "a/quay/", "a/quay/pace", "a.quay/pace", "aquay/pace", "xquay/", "quayquay/", "quay-quay/",
		"a", "Z", "a.b/c-1_Z", "nulls", "True", "owner", strings.Repeat("a", 60), "quay." + strings.Repeat("/", 55),
	} {
		wantChanged(t, "Key", true, func(o *order) { o.Notes = []note{noteOf(key, "x")} })
	}
	for _, key := range []string{
		"quay/", "quay/a", "quay/pace", "quay/metrics", "quay//", "quay/quay", "quay/quay/", "quay/0", "quay/-", "quay/Z", "quay/" + strings.Repeat("a", 55), "quay/" + strings.Repeat("a", 56), "quay/ ", "quay/\x00",
		"", "null", "true", "false", "0", "1a", "-a", "_a", ".a", "/a", "/", " a", "a ", "a b", "a:", "a=b", "a\n", "a~", "a\x00", "a\xff", "\u00e9", strings.Repeat("a", 61), strings.Repeat("a", impl.MaxText), strings.Repeat("a", 100000),
	} {
		wantChanged(t, "the only Key", false, func(o *order) { o.Notes = []note{noteOf(key, "x")} })
		// Wherever it stands, also where it is the only thing that is wrong.
		for at := range impl.MaxNotes {
			o := fullOrder()
			o.Notes[at].Key = key
			wantOrder(t, "one of the Keys", o, false)
			slices.SortFunc(o.Notes, byNoteKey)
			wantOrder(t, "one of the Keys, ascending", o, false)
		}
	}
}

func TestOrderOkTextsOfNotes(t *testing.T) {
	check := func(s string, want bool) {
		t.Helper()
		wantChanged(t, "the only Text", want, func(o *order) { o.Notes = []note{noteOf("a", s)} })
		for at := range impl.MaxNotes {
			o := fullOrder()
			o.Notes[at].Text = s
			wantOrder(t, "one of the Texts", o, want)
		}
	}
	for n := range 50 {
		check(strings.Repeat("x", n), n <= 40)
		check(strings.Repeat(" ", n), n <= 40)
	}
	for b := range 256 {
		c := string([]byte{byte(b)})
		for _, s := range []string{c, c + "a", "a" + c, "a" + c + "a", strings.Repeat("a", 39) + c, c + strings.Repeat("a", 39)} {
			check(s, b >= 32 && b <= 126)
		}
		check(strings.Repeat("a", 40)+c, false)
	}
	for _, s := range []string{strings.Repeat("x", impl.MaxText), strings.Repeat("x", impl.MaxText+1), strings.Repeat("x", 100000), "\u00e9", "a\nb"} {
		check(s, false)
	}
	for _, s := range []string{"", "quay/pace", "null", `{"a":1}`, `"\`, "# a: - b"} {
		check(s, true)
	}
}

// roomyOrder is a copy with spare room behind its lists, in which something stands.
func roomyOrder(o order) order {
	metrics, notes := make([]metric, 0, len(o.Metrics)+3), make([]note, 0, len(o.Notes)+3)
	metrics, notes = append(metrics, o.Metrics...), append(notes, o.Notes...)
	for range 3 {
		metrics, notes = append(metrics, metricOf("a", 1, 1)), append(notes, noteOf("a", "spare"))
	}
	o.Metrics, o.Notes = metrics[:len(o.Metrics)], notes[:len(o.Notes)]
	return o
}

// wholeOrder is a copy in which spare room is part of the lists.
func wholeOrder(o order) order {
	o.Metrics, o.Notes = slices.Clone(o.Metrics[:cap(o.Metrics)]), slices.Clone(o.Notes[:cap(o.Notes)])
	return o
}

func TestOrdersAreNotWrittenTo(t *testing.T) {
	turned, alike, many := fullOrder(), fullOrder(), fullOrder()
	slices.Reverse(turned.Metrics)
	slices.Reverse(turned.Notes)
	alike.Metrics[2], alike.Notes[2] = alike.Metrics[1], alike.Notes[1]
	many.Metrics, many.Notes = namedMetrics("e", "d", "c", "b", "a"), keyedNotes("e", "d", "c", "b", "a")
	for _, o := range []order{{}, webOrder(), fullOrder(), turned, alike, many} {
		a, b := roomyOrder(o), roomyOrder(o)
		was := wholeOrder(a)
		ok, same := impl.OrderOk(a), impl.OrderSame(a, b)
		again := impl.OrderSame(a, a)
		if !reflect.DeepEqual(wholeOrder(a), was) || !reflect.DeepEqual(wholeOrder(b), was) {
			t.Errorf("what was handed in is %+v, it was %+v", wholeOrder(a), was)
		}
		// What stands in spare room counts for nothing.
		if ok != impl.OrderOk(o) || ok != orderFits(o) || !same || !again || !impl.OrderSame(a, o) {
			t.Errorf("with spare room %+v is answered otherwise", o)
		}
	}
}
