package tests

import (
	"math"
	"slices"
	"strings"
	"testing"

	"loop.example/g00465/impl"
)

func wantShare(t *testing.T, want int, list ...metric) {
	t.Helper()
	if got, ok := impl.ShareOf(list); got != want || ok != (want > 0) {
		t.Errorf("ShareOf(%+v) = %d, %v, want %d", list, got, ok, want)
	}
}

func cpuOf(goal int) metric { return metricOf("cpu", impl.MtShare, goal) }

// noShares are metrics `cpu`, or nearly so, that the plain shape can't say.
func noShares() []metric {
	var out []metric
	for _, goal := range []int{math.MinInt, -impl.MaxInt, -10000, -500, -10, -5, -1, 0, 1, 5, 9, 11, 15, 19, 99, 505, 9999, 10001, 10009, 10010, 10020, 20000, 100000, mostGoal, mostGoal + 10, impl.MaxInt, math.MaxInt, math.MaxInt - 7} {
		out = append(out, cpuOf(goal))
	}
	for _, kind := range []int{math.MinInt, -1, 0, impl.MtMean, impl.MtWhole, 4, math.MaxInt} {
		out = append(out, metricOf("cpu", kind, 500))
	}
	for _, name := range []string{"", "CPU", "Cpu", "cp", "cpu ", " cpu", "cpu-", "cpu0", "cpus", "pcpu", "cpu\x00", "hits", "share"} {
		out = append(out, metricOf(name, impl.MtShare, 500))
	}
	return out
}

// Every goal from below the least share to above the greatest.
func TestShareOfEachGoal(t *testing.T) {
	for goal := -30; goal <= 10100; goal++ {
		want := 0
		if goal >= 10 && goal <= 10000 && goal%10 == 0 {
			want = goal / 10
		}
		wantShare(t, want, cpuOf(goal))
		wantShare(t, 0, metricOf("cpu", impl.MtMean, goal))
	}
	wantShare(t, 1, cpuOf(10))
	wantShare(t, 1000, cpuOf(10000))
}

func TestShareOfNone(t *testing.T) {
	wantShare(t, 0)
	if n, ok := impl.ShareOf(nil); n != 0 || ok {
		t.Errorf("ShareOf(nil) = %d, %v", n, ok)
	}
	for _, m := range noShares() {
		wantShare(t, 0, m)
		wantShare(t, 0, metricOf("a", impl.MtShare, 500), m, metricOf("z", impl.MtShare, 500))
	}
}

// Wherever it stands, and whatever else is in the list, also of a list that no order may have.
func TestShareOfAnyPlace(t *testing.T) {
	others := []metric{metricOf("a", 1, 10), metricOf("cp", 1, 20), metricOf("cpus", 1, 30), {}, metricOf("z", 9, -1), metricOf("CPU", 1, 40)}
	for n := range len(others) + 1 {
		for at := range n + 1 {
			wantShare(t, 7, slices.Insert(slices.Clone(others[:n]), at, cpuOf(70))...)
			wantShare(t, 0, slices.Insert(slices.Clone(others[:n]), at, cpuOf(71))...)
		}
	}
	// Of two of that Name the first one counts.
	wantShare(t, 1, cpuOf(10), cpuOf(20))
	for _, m := range noShares() {
		if m.Name == "cpu" {
			wantShare(t, 0, m, cpuOf(20))
			wantShare(t, 2, cpuOf(20), m)
		}
	}
}

func TestShareOfWritesIntoNothing(t *testing.T) {
	for _, o := range []order{webOrder(), fullOrder()} {
		arg := roomyOrder(o)
		was := wholeOrder(arg)
		first, ok := impl.ShareOf(arg.Metrics)
		if again, too := impl.ShareOf(o.Metrics); again != first || too != ok {
			t.Errorf("of %+v: %d, %v, then %d, %v", o.Metrics, first, ok, again, too)
		}
		if !slices.Equal(wholeOrder(arg).Metrics, was.Metrics) {
			t.Errorf("what was handed in is %+v, it was %+v", wholeOrder(arg).Metrics, was.Metrics)
		}
	}
	// What stands in spare room is not in the list.
	spare := []metric{metricOf("a", 1, 10), cpuOf(20)}
	wantShare(t, 0, spare[:1]...)
	wantShare(t, 0, spare[:0]...)
	wantShare(t, 0, namedMetrics(strings.Split("abcdefgh", "")...)...)
}
