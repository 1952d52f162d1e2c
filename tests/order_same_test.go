package tests

import (
	"math"
	"math/rand"
	"reflect"
	"strings"
	"testing"

	"loop.example/g00465/impl"
)

func wantSame(t *testing.T, a, b order, want bool) {
	t.Helper()
	if got := impl.OrderSame(a, b); got != want {
		t.Errorf("OrderSame(%.300v, %.300v) = %v, want %v", a, b, got, want)
	}
}

// anew is a copy by the test's own means, of which nothing is shared.
func anew(o order) order {
	o.Name, o.Target = strings.Clone(o.Name), strings.Clone(o.Target)
	o.Metrics, o.Notes = append([]metric{}, o.Metrics...), append([]note{}, o.Notes...)
	return o
}

// fieldChanges each change one field of an order that has two metrics and two notes at least.
func fieldChanges() []func(o *order) {
	return []func(o *order){
		func(o *order) { o.Name += "x" },
		func(o *order) { o.Name = "" },
		func(o *order) { o.Name = "Web" },
		func(o *order) { o.Target += "x" },
		func(o *order) { o.Target = "" },
		func(o *order) { o.Low++ },
		func(o *order) { o.Low = -o.Low },
		func(o *order) { o.Low = math.MinInt },
		func(o *order) { o.High++ },
		func(o *order) { o.High = 0 },
		func(o *order) { o.High += 1 << 32 },
		func(o *order) { o.Pace.Up++ },
		func(o *order) { o.Pace.Down++ },
		func(o *order) { o.Pace.UpSpan++ },
		func(o *order) { o.Pace.DownSpan++ },
		func(o *order) { o.Pace = impl.Pace{} },
		func(o *order) { o.Pace = impl.PaceNew() },
		func(o *order) { o.Metrics[0].Name += "0" },
		func(o *order) { o.Metrics[0].Kind++ },
		func(o *order) { o.Metrics[0].Goal++ },
		func(o *order) { o.Metrics[1].Name += "0" },
		func(o *order) { o.Metrics[1].Kind-- },
		func(o *order) { o.Metrics[1].Goal-- },
		func(o *order) { o.Metrics = nil },
		func(o *order) { o.Metrics = o.Metrics[:1] },
		func(o *order) { o.Metrics = o.Metrics[1:] },
		func(o *order) { o.Metrics = append(o.Metrics, metric{}) },
		func(o *order) { o.Metrics = append(o.Metrics, o.Metrics[1]) },
		func(o *order) { o.Metrics[0], o.Metrics[1] = o.Metrics[1], o.Metrics[0] },
		func(o *order) { o.Notes[0].Key += "0" },
		func(o *order) { o.Notes[0].Text += " " },
		func(o *order) { o.Notes[1].Key = "Team" },
		func(o *order) { o.Notes[1].Text += "x" },
		func(o *order) { o.Notes = nil },
		func(o *order) { o.Notes = o.Notes[:1] },
		func(o *order) { o.Notes = o.Notes[1:] },
		func(o *order) { o.Notes = append(o.Notes, note{}) },
		func(o *order) { o.Notes[0], o.Notes[1] = o.Notes[1], o.Notes[0] },
		func(o *order) { o.Notes[0] = noteOf(o.Notes[0].Text, o.Notes[0].Key) },
	}
}

func TestOrderSameInEachField(t *testing.T) {
	list := []order{webOrder()}
	for _, change := range fieldChanges() {
		o := anew(webOrder())
		change(&o)
		list = append(list, o)
	}
	for i, a := range list {
		for j, b := range list {
			wantSame(t, a, b, i == j)
			wantSame(t, a, anew(b), i == j)
		}
	}
}

// Names that change places are not the same order.
func TestOrderSameKeepsFieldsApart(t *testing.T) {
	a := order{Name: "a", Target: "b", Low: 1, High: 2, Pace: impl.Pace{Up: 1, Down: 2, UpSpan: 3, DownSpan: 4}}
	rows := []order{
		{Name: "b", Target: "a", Low: 1, High: 2, Pace: a.Pace},
		{Name: "a", Target: "b", Low: 2, High: 1, Pace: a.Pace},
		{Name: "ab", Target: "", Low: 1, High: 2, Pace: a.Pace},
		{Name: "", Target: "ab", Low: 1, High: 2, Pace: a.Pace},
		{Name: "a", Target: "b", Low: 1, High: 2, Pace: impl.Pace{Up: 2, Down: 1, UpSpan: 3, DownSpan: 4}},
		{Name: "a", Target: "b", Low: 1, High: 2, Pace: impl.Pace{Up: 1, Down: 2, UpSpan: 4, DownSpan: 3}},
		{Name: "a", Target: "b", Low: 1, High: 2, Pace: impl.Pace{Up: 3, Down: 4, UpSpan: 1, DownSpan: 2}},
	}
	wantSame(t, a, a, true)
	for _, b := range rows {
		wantSame(t, a, b, false)
		wantSame(t, b, a, false)
	}
}

func TestOrderSameOfNoLists(t *testing.T) {
	for _, o := range []order{{}, webOrder(), fullOrder()} {
		var list []order
		for _, metrics := range [][]metric{nil, {}, make([]metric, 0, 5), o.Metrics[:0]} {
			for _, notes := range [][]note{nil, {}, make([]note, 0, 5), o.Notes[:0]} {
				x := o
				x.Metrics, x.Notes = metrics, notes
				list = append(list, x)
			}
		}
		for _, a := range list {
			for _, b := range list {
				wantSame(t, a, b, true)
			}
			one, two := a, a
			one.Metrics, two.Notes = []metric{{}}, []note{{}}
			wantSame(t, a, one, false)
			wantSame(t, one, a, false)
			wantSame(t, a, two, false)
			wantSame(t, two, a, false)
		}
	}
}

// Orders that are not OrderOk are the same, or not, like others: lists of any length, and what stands in any place of them.
func TestOrderSameOfLongLists(t *testing.T) {
	for _, n := range []int{1, 2, 4, 5, 6, 8, 9, 1000} {
		a := webOrder()
		a.Metrics, a.Notes = make([]metric, n), make([]note, n)
		wantSame(t, a, anew(a), true)
		for _, at := range []int{0, n / 2, n - 1} {
			b, c, d := anew(a), anew(a), anew(a)
			b.Metrics[at].Goal = -1
			c.Notes[at].Text = "\x00"
			d.Metrics, d.Notes = d.Metrics[:at], d.Notes[:at]
			wantSame(t, a, b, false)
			wantSame(t, a, c, false)
			wantSame(t, a, d, false)
			wantSame(t, d, a, false)
			wantSame(t, b, anew(b), true)
			wantSame(t, c, anew(c), true)
		}
	}
	strange := order{Name: "\xff", Target: "", Low: math.MinInt, High: math.MaxInt, Metrics: []metric{metricOf("\x00", -1, math.MinInt), {}}, Notes: []note{noteOf("", "\n"), noteOf("quay/", strings.Repeat("x", 100000))}}
	wantSame(t, strange, anew(strange), true)
	wantSame(t, strange, order{}, false)
}

func TestOrderSameOfManyOrders(t *testing.T) {
	r := rand.New(rand.NewSource(66))
	changes := fieldChanges()
	for range 3000 {
		a, b := anew(anyOrder(r)), anew(anyOrder(r))
		wantSame(t, a, anew(a), true)
		wantSame(t, a, b, reflect.DeepEqual(a, b))
		if len(a.Metrics) < 2 || len(a.Notes) < 2 {
			continue
		}
		c := anew(a)
		changes[r.Intn(len(changes))](&c)
		same := reflect.DeepEqual(anew(a), anew(c))
		wantSame(t, a, c, same)
		wantSame(t, c, a, same)
	}
}
