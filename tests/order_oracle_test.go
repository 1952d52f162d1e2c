package tests

import (
	"fmt"
	"math/rand"
	"regexp"
	"slices"
	"strings"
	"testing"

	"loop.example/g00465/impl"
)

var (
	nameForm = regexp.MustCompile(`^[a-z][a-z0-9-]{0,19}\z`)
	keyForm  = regexp.MustCompile(`^[a-zA-Z][a-zA-Z0-9_./-]{0,59}\z`)
	noKey    = regexp.MustCompile(`^(null\z|true\z|false\z|quay/)`)
	noteForm = regexp.MustCompile(`^[ -~]{0,40}\z`)
	manyForm = regexp.MustCompile(`^(0|[1-9][0-9]{0,2}|1000)\z`)
	spanForm = regexp.MustCompile(`^(0|[1-9][0-9]{0,2}|[12][0-9]{3}|3[0-5][0-9]{2}|3600)\z`)
	goalForm = regexp.MustCompile(`^([1-9][0-9]{0,5}|1000000)\z`)
	kindForm = regexp.MustCompile(`^[123]\z`)

	// Made once, as some of them are long.
	rightNames, wrongNames = goodNames(), badNames()
)

func numberFits(form *regexp.Regexp, n int) bool { return form.MatchString(fmt.Sprint(n)) }

func metricsFit(list []metric) bool {
	seen := map[string]int{}
	for _, m := range list {
		seen[m.Name]++
		if !nameForm.MatchString(m.Name) || !numberFits(kindForm, m.Kind) || !numberFits(goalForm, m.Goal) {
			return false
		}
	}
	return len(list) < 5 && len(seen) == len(list) && slices.IsSortedFunc(list, byMetricName)
}

func notesFit(list []note) bool {
	seen := map[string]int{}
	for _, n := range list {
		seen[n.Key]++
		if !keyForm.MatchString(n.Key) || noKey.MatchString(n.Key) || !noteForm.MatchString(n.Text) {
			return false
		}
	}
	return len(list) < 5 && len(seen) == len(list) && slices.IsSortedFunc(list, byNoteKey)
}

func paceFits(p impl.Pace) bool {
	return numberFits(manyForm, p.Up) && numberFits(manyForm, p.Down) && numberFits(spanForm, p.UpSpan) && numberFits(spanForm, p.DownSpan)
}

func byMetricName(a, b metric) int { return strings.Compare(a.Name, b.Name) }

func byNoteKey(a, b note) int { return strings.Compare(a.Key, b.Key) }

// orderFits says by the test's own means what OrderOk is to say.
func orderFits(o order) bool {
	named := nameForm.MatchString(o.Name) && nameForm.MatchString(o.Target)
	bounded := o.Low > 0 && o.High >= o.Low && numberFits(manyForm, o.High)
	return named && bounded && metricsFit(o.Metrics) && paceFits(o.Pace) && notesFit(o.Notes)
}

// mostly picks from the first list, and from the other one now and then.
func mostly[T any](r *rand.Rand, good []T, bad []T) T {
	if r.Intn(50) == 0 {
		return bad[r.Intn(len(bad))]
	}
	return good[r.Intn(len(good))]
}

func numberNear(r *rand.Rand, low, high int) int {
	return mostly(r, []int{low, high, low + r.Intn(high-low+1)}, []int{low - 1, high + 1})
}

// anyOrder is mostly right in each of its things, and wrong in one of them now and then.
func anyOrder(r *rand.Rand) order {
	name := func() string { return mostly(r, rightNames, wrongNames) }
	keys, badKeys := []string{"a", "A", "a-", "a.b/c", "quay", "quays/", "owner", "x", "Zz", "z9"}, []string{"", "quay/", "quay/x", "null", "1", "a b"}
	o := order{Name: name(), Target: name(), Low: numberNear(r, 1, 20), High: numberNear(r, 20, 1000)}
	o.Pace = impl.Pace{Up: numberNear(r, 0, 1000), Down: numberNear(r, 0, 1000), UpSpan: numberNear(r, 0, 3600), DownSpan: numberNear(r, 0, 3600)}
	for range r.Intn(6) {
		o.Metrics = append(o.Metrics, metricOf(name(), numberNear(r, 1, 3), numberNear(r, 1, mostGoal)))
	}
	for range r.Intn(6) {
		o.Notes = append(o.Notes, noteOf(mostly(r, keys, badKeys), strings.Repeat("n", numberNear(r, 1, 40))))
	}
	if r.Intn(20) > 0 {
		slices.SortFunc(o.Metrics, byMetricName)
		slices.SortFunc(o.Notes, byNoteKey)
	}
	return o
}

func TestOrderOkOfManyOrders(t *testing.T) {
	r := rand.New(rand.NewSource(6))
	told := map[bool]int{}
	for range 60000 {
		o := anyOrder(r)
		want := orderFits(o)
		told[want]++
		if got := impl.OrderOk(o); got != want {
			t.Fatalf("OrderOk(%+v) = %v, want %v", o, got, want)
		}
		if got := impl.PaceOk(o.Pace); got != paceFits(o.Pace) {
			t.Fatalf("PaceOk(%+v) = %v", o.Pace, got)
		}
		for _, m := range o.Metrics {
			if got := impl.MetricOk(m); got != metricsFit([]metric{m}) {
				t.Fatalf("MetricOk(%+v) = %v", m, got)
			}
		}
	}
	if told[true] < 6000 || told[false] < 6000 {
		t.Errorf("too few of one answer: %v", told)
	}
}

// What is right has a name: an order that is accepted is refused without its names, and so is each metric of it.
func TestWhatIsRightHasAName(t *testing.T) {
	r := rand.New(rand.NewSource(16))
	for range 10000 {
		o := anyOrder(r)
		if !impl.OrderOk(o) {
			continue
		}
		if !impl.NameOk(o.Name) || !impl.NameOk(o.Target) {
			t.Fatalf("accepted without a name: %+v", o)
		}
		for _, m := range o.Metrics {
			if !impl.NameOk(m.Name) || !impl.MetricOk(m) {
				t.Fatalf("accepted with a metric %+v", m)
			}
		}
		nameless, aimless := o, o
		nameless.Name, aimless.Target = "", ""
		if impl.OrderOk(nameless) || impl.OrderOk(aimless) {
			t.Fatalf("accepted without its names: %+v", o)
		}
	}
}
