package tests

import (
	"fmt"
	"math/rand"
	"slices"
	"strings"
	"testing"

	"loop.example/g00465/impl"
)

func wantSaidOrder(t *testing.T, form int, shape int, o order, want string) {
	t.Helper()
	if got := impl.SaidOrder(form, shape, o); got != want {
		t.Fatalf("SaidOrder(%d, %d, %+v) = %.600q, want %.600q", form, shape, o, got, want)
	}
}

// webTexts is the ordinary order in each form and shape, written out.
func webTexts() [mostForms][]string {
	pace := `"{\"down\":1,\"downspan\":\"1m\",\"up\":3,\"upspan\":\"30s\"}"`
	hits := `"[{\"goal\":\"1500m\",\"kind\":\"whole\",\"name\":\"hits\"}]"`
	metrics := []string{"metrics:", "  -", "    goal: \"500m\"", "    kind: share", "    name: cpu", "  -", "    goal: \"1500m\"", "    kind: whole", "    name: hits", "name: web", "notes:", "  owner: me"}
	return [mostForms][]string{
		{
			`{"high":9,"kind":"full","low":2,"metrics":[{"goal":"500m","kind":"share","name":"cpu"},{"goal":"1500m","kind":"whole","name":"hits"}],"name":"web","notes":{"owner":"me","team.x/y":""},"pace":{"down":1,"downspan":"1m","up":3,"upspan":"30s"},"target":"pool"}`,
			`{"high":9,"kind":"middle","low":2,"metrics":[{"goal":"500m","kind":"share","name":"cpu"},{"goal":"1500m","kind":"whole","name":"hits"}],"name":"web","notes":{"owner":"me","quay/pace":` + pace + `,"team.x/y":""},"target":"pool"}`,
			`{"high":9,"kind":"plain","low":2,"name":"web","notes":{"owner":"me","quay/metrics":` + hits + `,"quay/pace":` + pace + `,"team.x/y":""},"share":50,"target":"pool"}`,
		},
		{
			text(slices.Concat([]string{"high: 9", "kind: full", "low: 2"}, metrics, []string{"  team.x/y: \"\"", "pace:", "  down: 1", "  downspan: \"1m\"", "  up: 3", "  upspan: \"30s\"", "target: pool"})...),
			text(slices.Concat([]string{"high: 9", "kind: middle", "low: 2"}, metrics, []string{"  quay/pace: " + pace, "  team.x/y: \"\"", "target: pool"})...),
			text("high: 9", "kind: plain", "low: 2", "name: web", "notes:", "  owner: me", "  quay/metrics: "+hits, "  quay/pace: "+pace, "  team.x/y: \"\"", "share: 50", "target: pool"),
		},
	}
}

func TestSaidOrder(t *testing.T) {
	for form, texts := range webTexts() {
		for shape, want := range texts {
			wantSaidOrder(t, form, shape, webOrder(), want)
			wantOrderHeard(t, form, want, webOrder(), shape)
		}
	}
	least := [mostForms][]string{
		{
			`{"high":3,"kind":"full","low":1,"metrics":[],"name":"a","notes":{},"pace":{"down":0,"downspan":"5m","up":0,"upspan":"0s"},"target":"b"}`,
			`{"high":3,"kind":"middle","low":1,"metrics":[],"name":"a","notes":{},"target":"b"}`,
			`{"high":3,"kind":"plain","low":1,"name":"a","notes":{},"target":"b"}`,
		},
		{
			text("high: 3", "kind: full", "low: 1", "metrics: []", "name: a", "notes: {}", "pace:", "  down: 0", `  downspan: "5m"`, "  up: 0", `  upspan: "0s"`, "target: b"),
			text("high: 3", "kind: middle", "low: 1", "metrics: []", "name: a", "notes: {}", "target: b"),
			text("high: 3", "kind: plain", "low: 1", "name: a", "notes: {}", "target: b"),
		},
	}
	for form, texts := range least {
		for shape, want := range texts {
			wantSaidOrder(t, form, shape, leastOrder(), want)
			wantOrderHeard(t, form, want, leastOrder(), shape)
		}
	}
}

// What is said is heard as it was: many orders, in each form and shape.
func TestOrdersAreHeardAsTheyWere(t *testing.T) {
	r := rand.New(rand.NewSource(124))
	orders := manyShaped()
	none := 0
	for len(orders) < 4000 {
		o := anyShared(r)
		if orderFits(o) {
			orders = append(orders, o)
			continue
		}
		none++
		for form := range mostForms {
			for shape := range 3 {
				wantSaidOrder(t, form, shape, o, "")
			}
		}
	}
	if none < 500 {
		t.Errorf("only %d were none", none)
	}
	for _, o := range orders {
		for shape, tree := range shapeModels(o) {
			for form := range mostForms {
				s := saidOf(form, tree)
				wantSaidOrder(t, form, shape, o, s)
				wantOrderHeard(t, form, s, o, shape)
				// In braces a text is one of lines, too, but not the other way round.
				if form == impl.FmBraced {
					wantOrderHeard(t, impl.FmIndented, s, o, shape)
				} else {
					wantOrderWay(t, impl.FmBraced, s, "text")
				}
			}
		}
	}
}

// From form to form and shape to shape, however often, it is the same order.
func TestOrdersThroughFormsAndShapes(t *testing.T) {
	r := rand.New(rand.NewSource(125))
	for _, o := range manyShaped() {
		now := anew(o)
		for range 12 {
			form, shape := r.Intn(mostForms), r.Intn(3)
			s := impl.SaidOrder(form, shape, now)
			wantOrderHeard(t, form, s, o, shape)
			now, _, _ = impl.HeardOrder(form, s)
		}
	}
}

// The greatest orders are said in fewer bytes than are heard.
func TestGreatestOrdersAreHeard(t *testing.T) {
	name := func(c string) string { return strings.Repeat(c, 20) }
	o := order{Name: name("z"), Target: name("y"), Low: 1000, High: 1000, Pace: impl.Pace{Up: 1000, Down: 1000, UpSpan: 3599, DownSpan: 3599}}
	for _, c := range []string{"a", "b", "c", "d"} {
		o.Metrics = append(o.Metrics, metricOf(name(c), impl.MtShare, mostGoal-1))
		for _, text := range []string{`"`, `\`} {
			one := o
			one.Notes = nil
			for _, k := range []string{"K", "L", "M", "N"} {
				one.Notes = append(one.Notes, noteOf(strings.Repeat(k, 60), strings.Repeat(text, 40)))
			}
			if !orderFits(one) {
				t.Fatalf("%+v is none", one)
			}
			for form := range mostForms {
				for shape, tree := range shapeModels(one) {
					s := saidOf(form, tree)
					wantSaidOrder(t, form, shape, one, s)
					wantOrderHeard(t, form, s, one, shape)
				}
			}
		}
	}
}

func TestSaidOrderOfNoOrder(t *testing.T) {
	nothing := func(o order) {
		t.Helper()
		for _, form := range []int{-1, 0, 1, 2} {
			for _, shape := range []int{-1, 0, 1, 2, 3} {
				wantSaidOrder(t, form, shape, o, "")
			}
		}
	}
	nothing(order{})
	nothing(order{Low: -1})
	for _, base := range []func() order{webOrder, fullOrder} {
		for _, change := range orderFaults() {
			o := anew(base())
			change(&o)
			nothing(o)
		}
	}
	nothing(withNotes(webOrder(), noteOf("quay/pace", paceWord(webOrder().Pace))))
	nothing(withNotes(webOrder(), noteOf("quay/metrics", metricsWord(cpuOf(5)))))
	nothing(withMetrics(webOrder(), cpuOf(10), cpuOf(10)))
}

// A shape that is none has no text, though zero is a tree that has one.
func TestSaidOrderOfShapesThatAreNone(t *testing.T) {
	for _, o := range []order{webOrder(), fullOrder(), leastOrder(), {}} {
		for _, shape := range noShapes() {
			for form := range mostForms {
				wantSaidOrder(t, form, shape, o, "")
			}
		}
	}
	for form, want := range []string{"null", "null\n"} {
		wantSaid(t, form, node{}, want)
		wantOrderWay(t, form, want, ".")
	}
}

// orderRow is a text in which one thing is otherwise than in that of the ordinary order, and the way; none, where it is an order still.
type orderRow struct {
	was string
	is  string
	way string
}

// wantOrderRows turns the text of one form and shape, each time in one place.
func wantOrderRows(t *testing.T, form int, shape int, rows []orderRow) {
	t.Helper()
	whole := webTexts()[form][shape]
	for _, r := range rows {
		if strings.Count(whole, r.was) != 1 {
			t.Fatalf("%q is %d times in %q", r.was, strings.Count(whole, r.was), whole)
		}
		s := strings.Replace(whole, r.was, r.is, 1)
		if r.way != "" {
			wantOrderWay(t, form, s, r.way)
		} else if o, _, _ := impl.HeardOrder(form, s); impl.OrderSame(o, webOrder()) || !impl.OrderOk(o) || heardHeld(t, form, s) != "" {
			t.Fatalf("HeardOrder(%d, %.600q) = %+v", form, s, o)
		}
	}
}

// Of a text of a tree that is no order the way is told that the shape tells; of no text `text`, whatever else is wrong in it.
func TestHeardOrderOfNoOrder(t *testing.T) {
	wantOrderRows(t, impl.FmBraced, 0, []orderRow{
		{`"full"`, `"Full"`, "kind"}, {`"full"`, `"text"`, "kind"}, {`"full"`, `1`, "kind"}, {`"full"`, `"middle"`, "pace"}, {`"full"`, `"plain"`, "metrics"}, {`"kind":"full",`, ``, "kind"},
		{`"high":9`, `"high":0`, "high"}, {`"high":9`, `"high":1`, "."}, {`"high":9,`, ``, "high"}, {`"target":"pool"`, `"text":1`, "text"}, {`"target":"pool"`, `"target":"Pool"`, "target"},
		{`"500m"`, `"500"`, ""}, {`"500m"`, `"0500m"`, "metrics/0/goal"}, {`"hits"`, `"cpu"`, "metrics/1"}, {`"owner":"me"`, `"owner":null`, "notes/owner"}, {`"owner":"me"`, `"a b":"me"`, "notes/a b"},
		{`"30s"`, `"61m"`, "pace/upspan"}, {`"up":3,`, `"text":3,`, "pace/text"}, {`"owner"`, `"quay/owner"`, "."}, {`"owner"`, `"zz"`, ""},
		{`"high":9`, `"high":9,"high":9`, "text"}, {`"high":9`, `"high":09`, "text"}, {`"high":9`, `"high":1000000000001`, "text"}, {`"kind":"full"`, `"kind":full`, "text"}, {`"kind":"full"`, `"kind"`, "text"}, {`}],`, `}]],`, "text"}, {`"me"`, `"` + strings.Repeat("x", 401) + `"`, "text"},
	})
	wantOrderRows(t, impl.FmBraced, 1, []orderRow{
		{`\"up\":3`, `\"up\":4`, ""}, {`\"up\":3`, `\"up\": 3`, "notes/quay/pace"}, {`\"up\":3`, `\"up\":`, "notes/quay/pace"}, {`"quay/pace"`, `"quay/text"`, "notes/quay/text"}, {`"owner"`, `"quay/owner"`, "notes/quay/owner"}, {`\"up\":3`, `"up":3`, "text"},
	})
	wantOrderRows(t, impl.FmIndented, 0, []orderRow{
		{"kind: full\n", "kind: Full\n", "kind"}, {"kind: full\n", "kind: text\n", "kind"}, {"kind: full\n", "kind:\n  - full\n", "kind"}, {"kind: full\n", "kind: middle\n", "pace"}, {"kind: full\n", "kind: plain\n", "metrics"}, {"kind: full\n", "", "kind"},
		{"high: 9", "high: 0", "high"}, {"high: 9", `high: "9"`, "high"}, {"high: 9", "high: 1", "."}, {"high: 9\n", "", "high"}, {"target: pool", "text: 1", "text"}, {"target: pool", "target: Pool", "target"},
		{`"500m"`, `"500"`, ""}, {`"500m"`, `500`, "metrics/0/goal"}, {"name: hits", "name: cpu", "metrics/1"}, {"owner: me", "owner: null", "notes/owner"}, {"owner: me", `"a b": me`, "notes/a b"},
		{`"30s"`, `"61m"`, "pace/upspan"}, {"up: 3", "text: 3", "pace/text"}, {"owner", "quay/owner", "."}, {"owner", "zz", ""},
		{"high: 9", "high: 9\nhigh: 9", "text"}, {"high: 9", "high:9", "text"}, {"high: 9", " high: 9", "text"}, {"high: 9", "high: 09", "text"}, {"high: 9", "- 9", "text"}, {"target: pool\n", "target:\n", "text"}, {"  owner", " owner", "text"}, {"  owner", "\towner", "text"}, {"owner: me", "owner: 1m", "text"},
	})
	wantOrderRows(t, impl.FmIndented, 2, []orderRow{
		{"share: 50", "share: 0", "share"}, {"share: 50", "share: 500", ""}, {"share: 50\n", "", ""}, {`\"hits\"`, `\"cpu\"`, "notes/quay/metrics"}, {"1500m", "1.5", "notes/quay/metrics"}, {`\"up\":3`, `\"up\":03`, "notes/quay/pace"}, {`quay/pace: "`, `quay/pace: "x`, "notes/quay/pace"}, {`quay/pace: "`, `quay/pace: `, "text"},
	})
}

func TestHeardOrderOfNoMap(t *testing.T) {
	for _, s := range []string{"null", "true", "0", "12", `"full"`, `"kind"`, "[]", "[{}]", `["kind","full"]`, "[1,2]"} {
		for form := range mostForms {
			wantOrderWay(t, form, s, ".")
		}
	}
	for _, s := range []string{"full", "kind", "text", "- 1", "- kind: full", "-\n  kind: full\n"} {
		wantOrderWay(t, impl.FmBraced, s, "text")
	}
	for _, s := range []string{"full", "kind", "text", "- 1\n", "-\n  kind: full\n"} {
		wantOrderWay(t, impl.FmIndented, s, ".")
	}
	for _, s := range []string{"{}", `{"text":1}`, `{"kind":null}`, `{"kind":"text"}`, `{"kind":["full"]}`, `{"Kind":"full"}`} {
		for form := range mostForms {
			wantOrderWay(t, form, s, "kind")
		}
	}
	wantOrderWay(t, impl.FmIndented, "text: 1\n", "kind")
	// A Key that is none may be called as that which is no text.
	wantOrderWay(t, impl.FmBraced, `{"kind":"full","text":1}`, "text")
	wantOrderWay(t, impl.FmIndented, "kind: plain\ntext: 1\n", "text")
}

// A strange Key that is empty has an empty way; what stands beside it is Shaped of the tree: zero, and the shape.
func TestHeardOrderOfAnEmptyKey(t *testing.T) {
	for shape, tree := range shapeModels(webOrder()) {
		for form := range mostForms {
			for _, x := range []node{{}, intNode(1), textNode("x")} {
				wantOrderHeard(t, form, saidOf(form, putAt(tree, x, "")), order{}, shape)
			}
		}
	}
}

// What is heard may be written otherwise than it is said: with blanks, in any order of its Keys, and with lines that say nothing.
func TestOrdersLooselyWrittenAreHeard(t *testing.T) {
	r := rand.New(rand.NewSource(126))
	wantOrderHeard(t, impl.FmBraced, "\n{ \"target\" : \"b\" ,\t\"name\":\"a\",\r\n\"kind\":\"full\", \"high\": 3 }\n", leastOrder(), 0)
	wantOrderHeard(t, impl.FmIndented, "# the least\n\ntarget: b\nname: \"a\"\n  # of the poorest shape\n\"kind\": plain\nhigh: 3", leastOrder(), 2)
	for _, o := range manyShaped() {
		for range 10 {
			shape := r.Intn(3)
			tree := shapeModels(o)[shape]
			wantOrderHeard(t, impl.FmBraced, loosely(r, tree), o, shape)
			wantOrderHeard(t, impl.FmIndented, text(inLines(r, tree)...), o, shape)
		}
	}
}

// Trees of orders spoilt in some things, and texts of them spoilt in some bytes or lines, held against the test's own readers.
func TestHeardOrderOfSpoiltTexts(t *testing.T) {
	r := rand.New(rand.NewSource(127))
	lists, paces, orders := keptLists(), keptTexts(), manyShaped()
	told := map[string]int{}
	for range 20000 {
		tree := shapeModels(orders[r.Intn(len(orders))])[r.Intn(3)]
		for range r.Intn(3) {
			tree = spoiltPlain(r, tree, lists, paces)
		}
		if !impl.TreeOk(tree) {
			continue
		}
		form := r.Intn(mostForms)
		s := saidOf(form, tree)
		if r.Intn(3) == 0 {
			s = strings.Join(spoiled(r, strings.SplitAfter(s, "\n")), "")
		}
		way := heardHeld(t, form, s)
		told[fmt.Sprintf("%s: %s", formNames[form], way)]++
	}
	for _, form := range formNames {
		for _, way := range []string{"", ".", "text", "kind", "high", "low", "metrics", "name", "notes", "pace", "share", "target", "metrics/0/goal", "pace/up", "notes/quay/metrics", "notes/quay/pace"} {
			if n := told[form+": "+way]; n < 5 {
				t.Errorf("%s: %q was told %d times", form, way, n)
			}
		}
	}
}
