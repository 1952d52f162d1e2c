package tests

import (
	"fmt"
	"strings"
	"testing"

	"loop.example/g00465/impl"
)

const (
	keptMean  = `{"goal":"1","kind":"mean","name":"a"}`
	keptWhole = `{"goal":"1500m","kind":"whole","name":"hits"}`
)

// metricsKept are notes of metrics that may be kept, where there is a share, too, but for those with a `cpu`.
func metricsKept() map[string][]metric {
	return map[string][]metric{
		"[" + keptMean + "]":                                  {metricOf("a", impl.MtMean, 1000)},
		"[" + keptMean + "," + keptWhole + "]":                {metricOf("a", impl.MtMean, 1000), metricOf("hits", impl.MtWhole, 1500)},
		`[{"goal":"1m","kind":"share","name":"cp"}]`:          {metricOf("cp", impl.MtShare, 1)},
		`[{"goal":"1k","kind":"share","name":"cpus"}]`:        {metricOf("cpus", impl.MtShare, mostGoal)},
		`[{"goal":"500m","kind":"share","name":"share"}]`:     {metricOf("share", impl.MtShare, 500)},
		`[{"goal":"999","kind":"mean","name":"x-0"}]`:         {metricOf("x-0", impl.MtMean, 999000)},
		`[{"goal":"999999m","kind":"mean","name":"metrics"}]`: {metricOf("metrics", impl.MtMean, 999999)},
		`[{"goal":"1k","kind":"whole","name":"a"},{"goal":"1k","kind":"whole","name":"b"},{"goal":"1k","kind":"whole","name":"c"}]`: {metricOf("a", 3, mostGoal), metricOf("b", 3, mostGoal), metricOf("c", 3, mostGoal)},
	}
}

// cpusKept are notes of a metric `cpu` that a share can't say.
func cpusKept() map[string][]metric {
	return map[string][]metric{
		`[{"goal":"505m","kind":"share","name":"cpu"}]`:   {cpuOf(505)},
		`[{"goal":"1m","kind":"share","name":"cpu"}]`:     {cpuOf(1)},
		`[{"goal":"9m","kind":"share","name":"cpu"}]`:     {cpuOf(9)},
		`[{"goal":"11m","kind":"share","name":"cpu"}]`:    {cpuOf(11)},
		`[{"goal":"9999m","kind":"share","name":"cpu"}]`:  {cpuOf(9999)},
		`[{"goal":"10001m","kind":"share","name":"cpu"}]`: {cpuOf(10001)},
		`[{"goal":"10010m","kind":"share","name":"cpu"}]`: {cpuOf(10010)},
		`[{"goal":"11","kind":"share","name":"cpu"}]`:     {cpuOf(11000)},
		`[{"goal":"1k","kind":"share","name":"cpu"}]`:     {cpuOf(mostGoal)},
		`[{"goal":"500m","kind":"mean","name":"cpu"}]`:    {metricOf("cpu", impl.MtMean, 500)},
		`[{"goal":"500m","kind":"whole","name":"cpu"}]`:   {metricOf("cpu", impl.MtWhole, 500)},
		`[{"goal":"10","kind":"whole","name":"cpu"}]`:     {metricOf("cpu", impl.MtWhole, 10000)},
		`[{"goal":"1","kind":"mean","name":"a"},{"goal":"505m","kind":"share","name":"cpu"},{"goal":"1500m","kind":"whole","name":"hits"}]`: {metricOf("a", impl.MtMean, 1000), cpuOf(505), metricOf("hits", impl.MtWhole, 1500)},
	}
}

// cpusRefused are notes of a metric `cpu` that is a share.
func cpusRefused() []string {
	var out []string
	for _, goal := range []string{"10m", "20m", "500m", "990m", "1", "5", "9990m", "10"} {
		cpu := fmt.Sprintf(`{"goal":"%s","kind":"share","name":"cpu"}`, goal)
		out = append(out, "["+cpu+"]", "["+keptMean+","+cpu+"]", "["+cpu+","+keptWhole+"]", "["+keptMean+","+cpu+","+keptWhole+"]")
	}
	return out
}

// noMetrics are texts of notes that are refused, by why.
func noMetrics() map[string][]string {
	one := func(goal string, kind string, name string) string {
		return fmt.Sprintf(`[{"goal":%s,"kind":%s,"name":%s}]`, goal, kind, name)
	}
	return map[string][]string{
		"no braced text": {"", " ", "x", "cpu", "- 1", "[", "]", "[]]", "[] x", "[" + keptMean, keptMean + "]", "[" + keptMean + ",]", "[," + keptMean + "]", "[" + keptMean + " " + keptWhole + "]", "[" + keptMean + "]x", "['a']", "[" + keptMean + "]\x00", "\x00", "\u00e9", `[{"goal":"1","goal":"1","kind":"mean","name":"a"}]`, strings.Repeat("[", 400), strings.Repeat("[", 100000), strings.Repeat(" ", 7000)},
		"of no list":     {"null", "true", "false", "0", "1", "-1", `""`, `"[]"`, "{}", keptMean, `{"metrics":[` + keptMean + `]}`, `{"0":` + keptMean + `}`, `"[{\"goal\":\"1\",\"kind\":\"mean\",\"name\":\"a\"}]"`},
		"nothing":        {"[]", "[ ]", " []", "[] "},
		"no maps":        {"[null]", "[0]", "[[]]", "[[" + keptMean + "]]", `["a"]`, "[" + keptMean + ",1]", "[null," + keptMean + "]", `["{}"]`},
		"Keys":           {"[{}]", `[{"goal":"1","kind":"mean"}]`, `[{"goal":"1","name":"a"}]`, `[{"kind":"mean","name":"a"}]`, `[{"goal":"1","kind":"mean","name":"a","x":1}]`, `[{"":1,"goal":"1","kind":"mean","name":"a"}]`, `[{"goal":"1","kind":"mean","name":"a"},{}]`, `[{"Goal":"1","kind":"mean","name":"a"}]`},
		"values": {
			one(`"0"`, `"mean"`, `"a"`), one(`"0m"`, `"mean"`, `"a"`), one(`"2k"`, `"mean"`, `"a"`), one(`"1000001m"`, `"mean"`, `"a"`), one(`"1001"`, `"mean"`, `"a"`), one(`"-1"`, `"mean"`, `"a"`), one(`""`, `"mean"`, `"a"`), one(`"x"`, `"mean"`, `"a"`), one(`1`, `"mean"`, `"a"`), one(`null`, `"mean"`, `"a"`),
			one(`"1"`, `"none"`, `"a"`), one(`"1"`, `"Mean"`, `"a"`), one(`"1"`, `""`, `"a"`), one(`"1"`, `2`, `"a"`), one(`"1"`, `[]`, `"a"`),
			one(`"1"`, `"mean"`, `""`), one(`"1"`, `"mean"`, `"A"`), one(`"1"`, `"mean"`, `"1"`), one(`"1"`, `"mean"`, `"a b"`), one(`"1"`, `"mean"`, `null`), one(`"1"`, `"mean"`, `"`+strings.Repeat("n", 21)+`"`),
		},
		"one Name twice": {"[" + keptMean + "," + keptMean + "]", `[{"goal":"1","kind":"mean","name":"a"},{"goal":"2","kind":"whole","name":"a"}]`, "[" + keptMean + "," + keptWhole + "," + keptWhole + "]", `[{"goal":"505m","kind":"share","name":"cpu"},{"goal":"500m","kind":"mean","name":"cpu"}]`},
		"other blanks":   {" [" + keptMean + "]", "[" + keptMean + "] ", "[ " + keptMean + "]", "[" + keptMean + " ]", "[" + keptMean + ", " + keptWhole + "]", "[" + keptMean + " ," + keptWhole + "]", `[{ "goal":"1","kind":"mean","name":"a"}]`, `[{"goal": "1","kind":"mean","name":"a"}]`, `[{"goal":"1", "kind":"mean","name":"a"}]`, "[\n" + keptMean + "]", "[" + keptMean + "]\n", "\t[" + keptMean + "]"},
		"another order":  {"[" + keptWhole + "," + keptMean + "]", `[{"kind":"mean","goal":"1","name":"a"}]`, `[{"name":"a","kind":"mean","goal":"1"}]`, `[{"goal":"1","name":"a","kind":"mean"}]`},
		"other writings": {one(`"1000m"`, `"mean"`, `"a"`), one(`"1000"`, `"mean"`, `"a"`), one(`"1000000m"`, `"mean"`, `"a"`), one(`"1Ki"`, `"mean"`, `"a"`), "[" + keptMean + `,{"goal":"1000m","kind":"mean","name":"b"}]`, "- goal: 1\n  kind: mean\n  name: a\n", one(`"505m"`, `"mean"`, `"\/a"`)},
	}
}

func TestPlainOfKeptMetrics(t *testing.T) {
	for s, list := range metricsKept() {
		for _, o := range []order{webOrder(), fullOrder(), leastOrder()} {
			o.Metrics = list
			tree := putAt(plainModel(o), textNode(s), "notes", "quay/metrics")
			wantPlainOrder(t, tree, o)
			wantTree(t, "PlainTree", impl.PlainTree(o), tree)
			shared := putAt(tree, intNode(33), "share")
			o.Metrics = sortedMetrics(append([]metric{cpuOf(330)}, list...)...)
			wantPlainOrder(t, shared, o)
			wantTree(t, "PlainTree", impl.PlainTree(o), shared)
		}
	}
}

// A `cpu` that a share can't say is kept in the note, but not beside a share.
func TestPlainOfKeptCpus(t *testing.T) {
	for s, list := range cpusKept() {
		for _, o := range []order{webOrder(), fullOrder(), leastOrder()} {
			o.Metrics = list
			tree := putAt(plainModel(o), textNode(s), "notes", "quay/metrics")
			wantPlainOrder(t, tree, o)
			wantTree(t, "PlainTree", impl.PlainTree(o), tree)
			for _, share := range []int{1, 50, 1000} {
				wantPlainWay(t, putAt(tree, intNode(share), "share"), "notes/quay/metrics")
			}
			wantPlainWay(t, putAt(tree, intNode(0), "share"), "share")
		}
	}
	for _, s := range cpusRefused() {
		for _, base := range plainBases() {
			tree := putAt(base, textNode(s), "notes", "quay/metrics")
			wantPlainWay(t, tree, "notes/quay/metrics")
			wantPlainWay(t, cutAt(tree, "share"), "notes/quay/metrics")
			wantPlainWay(t, putAt(tree, intNode(1), "share"), "notes/quay/metrics")
		}
	}
}

func TestPlainOfNotesThatKeepNoMetrics(t *testing.T) {
	for why, texts := range noMetrics() {
		for _, s := range texts {
			for _, base := range plainBases() {
				tree := putAt(base, textNode(s), "notes", "quay/metrics")
				if _, way := impl.PlainOf(tree); way != "notes/quay/metrics" {
					t.Errorf("%s: of %.80q the way is %q", why, s, way)
				}
				wantPlainWay(t, tree, "notes/quay/metrics")
				// Ahead of a Pace that is wrong, and of all that comes behind that.
				wantPlainWay(t, putAt(tree, textNode(s), "notes", "quay/pace"), "notes/quay/metrics")
				wantPlainWay(t, putAt(tree, textNode(s), "notes", "quay/a"), "notes/quay/metrics")
			}
		}
	}
}

func TestPlainOfNotesThatKeepNoPace(t *testing.T) {
	for why, texts := range noPaces() {
		for _, s := range texts {
			for _, base := range plainBases() {
				tree := putAt(base, textNode(s), "notes", "quay/pace")
				if _, way := impl.PlainOf(tree); way != "notes/quay/pace" {
					t.Errorf("%s: of %.80q the way is %q", why, s, way)
				}
				wantPlainWay(t, putAt(tree, textNode("[]"), "notes", "quay/metrics"), "notes/quay/metrics")
				wantPlainWay(t, putAt(tree, textNode(""), "notes", "quay/a"), "notes/quay/pace")
			}
		}
	}
	for s, p := range pacesKept() {
		for _, o := range []order{webOrder(), fullOrder(), leastOrder()} {
			o.Pace = p
			wantPlainOrder(t, putAt(plainModel(o), textNode(s), "notes", "quay/pace"), o)
		}
	}
	// What the one note keeps the other one can't.
	for _, base := range plainBases() {
		wantPlainWay(t, putAt(base, textNode("["+keptMean+"]"), "notes", "quay/pace"), "notes/quay/pace")
		wantPlainWay(t, putAt(base, textNode(paceWord(webOrder().Pace)), "notes", "quay/metrics"), "notes/quay/metrics")
	}
}

// A text that is changed in one byte is of other metrics, or of none: never of the same ones.
func TestPlainOfNotesChangedInOneByte(t *testing.T) {
	was := `[{"goal":"1500m","kind":"whole","name":"bpu"},{"goal":"9m","kind":"share","name":"cp"}]`
	read, refused := 0, 0
	for i := range len(was) {
		texts := []string{was[:i] + was[i+1:]}
		for c := range 128 {
			texts = append(texts, was[:i]+string(rune(c))+was[i+1:], was[:i]+string(rune(c))+was[i:])
		}
		for _, s := range texts {
			if s == was {
				continue
			}
			tree := putAt(leastPlain(), textNode(s), "notes", "quay/metrics")
			list, fits := keptMetrics(s)
			for _, m := range list {
				fits = fits && shareIn(m) == 0
			}
			if fits {
				wantPlainOrder(t, tree, withMetrics(leastOrder(), list...))
				read++
			} else {
				wantPlainWay(t, tree, "notes/quay/metrics")
				refused++
			}
		}
	}
	if read < 200 || refused < 10000 {
		t.Errorf("%d are read, %d refused", read, refused)
	}
}

// As many metrics as a text may have of nodes are read, and then are no order; more are no tree.
func TestPlainOfVeryManyKeptMetrics(t *testing.T) {
	names := func(n int) []string {
		var out []string
		for i := range n {
			out = append(out, fmt.Sprintf("m%03d", i))
		}
		return out
	}
	for n, want := range map[int]string{1: "", 4: "", 5: ".", 20: ".", 49: ".", 50: "notes/quay/metrics", 90: "notes/quay/metrics", 300: "notes/quay/metrics"} {
		list := namedMetrics(names(n)...)
		for i := range list {
			list[i].Goal = 1 + i%9
		}
		tree := putAt(leastPlain(), textNode(metricsWord(list...)), "notes", "quay/metrics")
		if _, way := impl.PlainOf(tree); way != want {
			t.Errorf("of %d metrics the way is %q, want %q", n, way, want)
		}
	}
}

// Another note that begins with `quay/`: the first one, but behind metrics and a Pace that are wrong.
func TestPlainOfOwnNotes(t *testing.T) {
	kept, pace := "["+keptMean+"]", paceWord(webOrder().Pace)
	keys := []string{"quay/", "quay/-", "quay/Metrics", "quay/a", "quay/metric", "quay/metrics-", "quay/metrics/", "quay/metrics/x", "quay/metricsx", "quay/n", "quay/pac", "quay/pace-", "quay/pace/x", "quay/q", "quay/share", "quay/zz"}
	for _, base := range plainBases() {
		for i, key := range keys {
			for _, s := range []string{"", "[]", kept, pace} {
				one := putAt(base, textNode(s), "notes", key)
				wantPlainWay(t, one, "notes/"+key)
				wantPlainWay(t, putAt(putAt(one, textNode(pace), "notes", "quay/pace"), textNode(kept), "notes", "quay/metrics"), "notes/"+key)
				wantPlainWay(t, putAt(one, textNode("{}"), "notes", "quay/pace"), "notes/quay/pace")
				wantPlainWay(t, putAt(one, textNode("[]"), "notes", "quay/metrics"), "notes/quay/metrics")
			}
			for _, other := range keys[i+1:] {
				wantPlainWay(t, putAt(putAt(base, textNode(""), "notes", other), textNode(""), "notes", key), "notes/"+key)
			}
		}
	}
	// What only looks like one of these is a note as any other.
	for _, key := range []string{"quay", "quays/metrics", "Quay/metrics", "quay-/metrics", "quay.metrics", "a/quay/metrics", "metrics", "share"} {
		want := withNotes(leastOrder(), noteOf(key, "x"))
		wantPlainOrder(t, putAt(leastPlain(), textNode("x"), "notes", key), want)
	}
}
