package tests

import (
	"math"
	"slices"
	"strings"
	"testing"

	"loop.example/g00465/impl"
)

const (
	smallLetters = "abcdefghijklmnopqrstuvwxyz"
	nameBytes    = smallLetters + "0123456789-"
	mostGoal     = 1000000
)

func TestOrderConstants(t *testing.T) {
	if kinds := []int{impl.MtShare, impl.MtMean, impl.MtWhole}; !slices.Equal(kinds, []int{1, 2, 3}) {
		t.Errorf("kinds are %v", kinds)
	}
	if impl.MaxMetrics != 4 || impl.MaxNotes != 4 || impl.MaxMany != 1000 {
		t.Errorf("limits are %d, %d, %d", impl.MaxMetrics, impl.MaxNotes, impl.MaxMany)
	}
}

func goodNames() []string {
	return []string{
		"a", "z", "web", "cpu", "hits", "a-1", "a-", "a--", "a0", "z9", "a-b-c", "x1y2", "null", "true", "false", "quay", "name",
		strings.Repeat("a", 20), "z" + strings.Repeat("9", 19), "a" + strings.Repeat("-", 19), smallLetters[:20], "m" + smallLetters[7:],
	}
}

func badNames() []string {
	return []string{
		"", "-", "-a", "0", "1a", "9", "--", "A", "Z", "aA", "webZ", "Web", " ", " a", "a ", "a b", "a_b", "a.b", "a/b", "quay/", "quay/a", "a:b", "a+b", "a=b", "a`", "a{", "a@",
		"a\x00", "\x00", "\x00a", "a\n", "\na", "a\t", "a\x7f", "a\x80", "a\xff", "\xff", "a\u00e9", "\u00e9", "\u0430", "a\u0430", "a\u0661", "a\u2010b", "\uff41",
		strings.Repeat("a", 21), strings.Repeat("a", 22), strings.Repeat("a", 60), strings.Repeat("a", impl.MaxText), strings.Repeat("a", 100000),
		"a" + strings.Repeat("-", 20), strings.Repeat("1", 20), "-" + strings.Repeat("a", 19), strings.Repeat("a", 19) + "A", strings.Repeat("a", 19) + "\u00e9",
	}
}

func wantName(t *testing.T, s string, want bool) {
	t.Helper()
	if got := impl.NameOk(s); got != want {
		t.Errorf("NameOk(%.60q) = %v, want %v", s, got, want)
	}
}

func TestNameOk(t *testing.T) {
	for _, s := range goodNames() {
		wantName(t, s, true)
	}
	for _, s := range badNames() {
		wantName(t, s, false)
	}
	for n := range 70 {
		wantName(t, strings.Repeat("a", n), n >= 1 && n <= 20)
		wantName(t, "a"+strings.Repeat("-", n), n+1 <= 20)
	}
}

func TestNameOkOfEachByte(t *testing.T) {
	for b := range 256 {
		c := string([]byte{byte(b)})
		first, behind := strings.Contains(smallLetters, c), strings.Contains(nameBytes, c)
		for _, rest := range []string{"", "a", "1", "-", strings.Repeat("z", 19)} {
			wantName(t, c+rest, first)
		}
		wantName(t, c+strings.Repeat("z", 20), false)
		for at := 1; at < 20; at++ {
			wantName(t, strings.Repeat("a", at)+c, behind)
			wantName(t, strings.Repeat("a", at)+c+strings.Repeat("a", 19-at), behind)
		}
		wantName(t, strings.Repeat("a", 20)+c, false)
	}
}

// edges tells numbers about both ends of what is accepted, and far beyond.
func edges(low, high int) map[int]bool {
	out := map[int]bool{}
	for _, n := range []int{low - 1, low, low + 1, high - 1, high, high + 1, -1, 0, -high, 256*65536 + low, math.MinInt, math.MinInt + 1, math.MaxInt, impl.MaxInt, -impl.MaxInt, math.MinInt32, math.MaxInt32 + 1, 1 << 32, 1<<32 + low} {
		out[n] = n >= low && n <= high
	}
	return out
}

func wantMetric(t *testing.T, m impl.Metric, want bool) {
	t.Helper()
	if got := impl.MetricOk(m); got != want {
		t.Errorf("MetricOk(%.80v) = %v, want %v", m, got, want)
	}
}

func TestMetricOk(t *testing.T) {
	for _, s := range goodNames() {
		wantMetric(t, impl.Metric{Name: s, Kind: impl.MtMean, Goal: 1}, true)
	}
	for _, s := range badNames() {
		wantMetric(t, impl.Metric{Name: s, Kind: impl.MtMean, Goal: 1}, false)
	}
	for kind, kindOk := range edges(1, 3) {
		for goal, goalOk := range edges(1, mostGoal) {
			wantMetric(t, impl.Metric{Name: "cpu", Kind: kind, Goal: goal}, kindOk && goalOk)
			wantMetric(t, impl.Metric{Name: "Cpu", Kind: kind, Goal: goal}, false)
		}
	}
	wantMetric(t, impl.Metric{}, false)
	wantMetric(t, impl.Metric{Name: "cpu", Kind: 2, Goal: impl.MaxInt / 1000000}, true)
	wantMetric(t, impl.Metric{Name: "cpu", Kind: 2, Goal: impl.MaxInt/1000000 + 1}, false)
	wantMetric(t, impl.Metric{Name: "cpu", Kind: 2, Goal: impl.MaxInt}, false)
}

// Each number of a pace by itself, and with another one that is wrong, too.
func TestPaceOk(t *testing.T) {
	set := []func(p *impl.Pace, n int){
		func(p *impl.Pace, n int) { p.Up = n },
		func(p *impl.Pace, n int) { p.Down = n },
		func(p *impl.Pace, n int) { p.UpSpan = n },
		func(p *impl.Pace, n int) { p.DownSpan = n },
	}
	high := []int{1000, 1000, 3600, 3600}
	for i := range set {
		for n, nOk := range edges(0, high[i]) {
			for j := range set {
				for m, mOk := range edges(0, high[j]) {
					p := impl.Pace{Up: 1000, Down: 1000, UpSpan: 3600, DownSpan: 3600}
					set[i](&p, n)
					set[j](&p, m)
					want := mOk && (nOk || i == j)
					if got := impl.PaceOk(p); got != want {
						t.Errorf("PaceOk(%+v) = %v, want %v", p, got, want)
					}
				}
			}
		}
	}
	if !impl.PaceOk(impl.Pace{}) {
		t.Error("the zero pace is refused")
	}
}

func TestPaceNew(t *testing.T) {
	want := impl.Pace{Up: 0, Down: 0, UpSpan: 0, DownSpan: 300}
	for range 3 {
		p := impl.PaceNew()
		if p != want || !impl.PaceOk(p) {
			t.Errorf("PaceNew() = %+v, want %+v", p, want)
		}
		p.Up, p.DownSpan = 7, 7
	}
}
