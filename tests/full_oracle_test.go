package tests

import (
	"fmt"
	"maps"
	"math/rand"
	"regexp"
	"slices"
	"strconv"
	"strings"
	"testing"

	"loop.example/g00465/impl"
)

var (
	goalText = regexp.MustCompile(`^([0-9]|[1-9][0-9]{1,9})(|m|k|Ki)\z`)
	spanText = regexp.MustCompile(`^([0-9]|[1-9][0-9]{1,6})(s|m|h)\z`)
	plainKey = regexp.MustCompile(`^[a-zA-Z][a-zA-Z0-9_./-]{0,59}\z`)
)

// times is a text's number times what its end stands for; -1 where the text is not of that form.
func times(form *regexp.Regexp, s string, ends map[string]int) int {
	parts := form.FindStringSubmatch(s)
	if parts == nil {
		return -1
	}
	n, _ := strconv.Atoi(parts[1])
	return n * ends[parts[2]]
}

func goalIn(n node) int {
	goal := times(goalText, n.S, map[string]int{"": 1000, "m": 1, "k": 1000000, "Ki": 1024000})
	if n.Kind != impl.NdText || !numberFits(goalForm, goal) {
		return -1
	}
	return goal
}

func spanIn(n node) int {
	span := times(spanText, n.S, map[string]int{"s": 1, "m": 60, "h": 3600})
	if n.Kind != impl.NdText || !numberFits(spanForm, span) {
		return -1
	}
	return span
}

func nameIn(n node) bool { return n.Kind == impl.NdText && nameForm.MatchString(n.S) }

func manyIn(n node, low int) bool {
	return n.Kind == impl.NdInt && n.N >= low && numberFits(manyForm, n.N)
}

func kindIn(n node) int {
	if n.Kind != impl.NdText {
		return -1
	}
	return map[string]int{"share": 1, "mean": 2, "whole": 3}[n.S]
}

// model is a map as the test looks at it.
func model(n node) map[string]node {
	out := map[string]node{}
	for i, key := range n.Keys {
		out[key] = n.Kids[i]
	}
	return out
}

// mapWays are the ways of all that is wrong in a map, in the order in which they count.
func mapWays(n node, may map[string]func(node) []string, must ...string) []string {
	var strange, missing, wrong []string
	have := model(n)
	for _, key := range slices.Sorted(maps.Keys(have)) {
		look, in := may[key]
		if !in {
			strange = append(strange, key)
			continue
		}
		for _, way := range look(have[key]) {
			if way == "." {
				wrong = append(wrong, key)
			} else {
				wrong = append(wrong, key+"/"+way)
			}
		}
	}
	for _, key := range must {
		if _, in := have[key]; !in {
			missing = append(missing, key)
		}
	}
	return slices.Concat(strange, missing, wrong)
}

// leaf tells `.` where the test is false.
func leaf(fits func(node) bool) func(node) []string {
	return func(n node) []string {
		if fits(n) {
			return nil
		}
		return []string{"."}
	}
}

func metricsWays(n node) []string {
	if n.Kind != impl.NdList {
		return []string{"."}
	}
	var ways []string
	may := map[string]func(node) []string{
		"goal": leaf(func(n node) bool { return goalIn(n) > 0 }),
		"kind": leaf(func(n node) bool { return kindIn(n) > 0 }),
		"name": leaf(nameIn),
	}
	for i, kid := range n.Kids {
		if kid.Kind != impl.NdMap {
			ways = append(ways, fmt.Sprint(i))
			continue
		}
		for _, way := range mapWays(kid, may, "goal", "kind", "name") {
			ways = append(ways, fmt.Sprintf("%d/%s", i, way))
		}
	}
	if len(ways) > 0 {
		return ways
	}
	for i, kid := range n.Kids {
		for _, ahead := range n.Kids[:i] {
			if model(ahead)["name"].S == model(kid)["name"].S {
				ways = append(ways, fmt.Sprint(i))
			}
		}
	}
	return ways
}

func paceWays(n node) []string {
	if n.Kind != impl.NdMap {
		return []string{"."}
	}
	many := leaf(func(n node) bool { return manyIn(n, 0) })
	span := leaf(func(n node) bool { return spanIn(n) >= 0 })
	return mapWays(n, map[string]func(node) []string{"down": many, "downspan": span, "up": many, "upspan": span})
}

func notesWays(n node) []string {
	if n.Kind != impl.NdMap {
		return []string{"."}
	}
	var ways []string
	for key, kid := range model(n) {
		if !plainKey.MatchString(key) || isWord(key) || kid.Kind != impl.NdText {
			ways = append(ways, key)
		}
	}
	slices.Sort(ways)
	return ways
}

// shapeWays are the ways of what is wrong in a map of that `kind`; also says what else may be there.
func shapeWays(n node, kind string, also map[string]func(node) []string) []string {
	bound := leaf(func(n node) bool { return manyIn(n, 1) })
	may := map[string]func(node) []string{
		"high": bound, "low": bound, "name": leaf(nameIn), "target": leaf(nameIn), "notes": notesWays,
		"kind": leaf(func(n node) bool { return n.Kind == impl.NdText && n.S == kind }),
	}
	maps.Copy(may, also)
	return mapWays(n, may, "high", "kind", "name", "target")
}

func fullWays(n node) []string {
	if n.Kind != impl.NdMap {
		return []string{"."}
	}
	ways := shapeWays(n, "full", map[string]func(node) []string{"metrics": metricsWays, "pace": paceWays})
	if len(ways) == 0 && !orderFits(fullValue(n)) {
		ways = append(ways, ".")
	}
	return ways
}

func metricsValue(n node) []metric {
	var list []metric
	for _, kid := range n.Kids {
		have := model(kid)
		list = append(list, metricOf(have["name"].S, kindIn(have["kind"]), goalIn(have["goal"])))
	}
	slices.SortFunc(list, byMetricName)
	return list
}

func paceValue(n node) impl.Pace {
	p := impl.Pace{DownSpan: 300}
	for key, kid := range model(n) {
		switch key {
		case "down":
			p.Down = kid.N
		case "downspan":
			p.DownSpan = spanIn(kid)
		case "up":
			p.Up = kid.N
		case "upspan":
			p.UpSpan = spanIn(kid)
		}
	}
	return p
}

func notesValue(n node) []note {
	var list []note
	for key, kid := range model(n) {
		list = append(list, noteOf(key, kid.S))
	}
	slices.SortFunc(list, byNoteKey)
	return list
}

func fullValue(n node) order {
	have := model(n)
	o := order{Name: have["name"].S, Target: have["target"].S, Low: 1, High: have["high"].N}
	if low, in := have["low"]; in {
		o.Low = low.N
	}
	o.Metrics, o.Pace, o.Notes = metricsValue(have["metrics"]), paceValue(have["pace"]), notesValue(have["notes"])
	return o
}

// fullHeld is FullOf of a tree, and all that may be asked of its parts, held against the test's own reader; and the way.
func fullHeld(t *testing.T, n node) string {
	t.Helper()
	if ways := fullWays(n); len(ways) > 0 {
		wantFullWay(t, n, ways[0])
	} else {
		wantFull(t, n, fullValue(n))
	}
	for _, part := range slices.Concat(n.Kids, []node{n}) {
		if ways := metricsWays(part); len(ways) > 0 {
			wantMetricsWay(t, part, ways[0])
		} else {
			wantMetrics(t, part, metricsValue(part)...)
		}
		if ways := paceWays(part); len(ways) > 0 {
			wantPaceWay(t, part, ways[0])
		} else {
			wantPace(t, part, paceValue(part))
		}
		if ways := notesWays(part); len(ways) > 0 {
			wantNotesWay(t, part, ways[0])
		} else {
			wantNotes(t, part, notesValue(part)...)
		}
	}
	_, way := impl.FullOf(n)
	return way
}

// anyValue is something that fits somewhere, or nowhere.
func anyValue(r *rand.Rand) node {
	words := []string{"", "a", "cpu", "hits", "web", "Web", "full", "middle", "share", "mean", "whole", "none", "0", "0m", "1m", "500m", "1", "1000", "1001", "1k", "2k", "1Ki", "0s", "1s", "60s", "60m", "61m", "1h", "2h", "3600s", "3601s", ".", "1/x", strings.Repeat("n", 20), strings.Repeat("n", 21), strings.Repeat("n", 40), strings.Repeat("n", 41)}
	switch r.Intn(12) {
	case 0:
		return node{}
	case 1:
		return flagNode(r.Intn(2))
	case 2, 3, 4:
		return intNode([]int{-1, 0, 1, 2, 999, 1000, 1001, impl.MaxInt}[r.Intn(8)])
	case 5:
		return listNode()
	case 6:
		return mapNode(nil)
	}
	return textNode(words[r.Intn(len(words))])
}

func anyKey(r *rand.Rand) string {
	keys := []string{"", " ", ".", "A", "a", "zz", "~", "a b", "null", "quay/pace", "quay/x", "owner", "goal", "kind", "name", "down", "downspan", "up", "upspan", "high", "low", "metrics", "notes", "pace", "target", "share"}
	return keys[r.Intn(len(keys))]
}

// spoiltTree is a tree changed in one thing, somewhere.
func spoiltTree(r *rand.Rand, n node) node {
	n = snapshot(n)
	if len(n.Kids) > 0 && r.Intn(3) > 0 {
		at := r.Intn(len(n.Kids))
		n.Kids[at] = spoiltTree(r, n.Kids[at])
		return n
	}
	switch {
	case n.Kind == impl.NdMap && r.Intn(8) > 0:
		have := model(n)
		if len(n.Keys) > 0 && r.Intn(3) == 0 {
			delete(have, n.Keys[r.Intn(len(n.Keys))])
		} else {
			have[anyKey(r)] = anyValue(r)
		}
		return mapOf(have)
	case n.Kind == impl.NdList && r.Intn(8) > 0:
		if len(n.Kids) > 0 && r.Intn(2) == 0 {
			n.Kids = append(n.Kids, n.Kids[r.Intn(len(n.Kids))])
		} else {
			n.Kids = append(n.Kids, anyValue(r))
		}
		r.Shuffle(len(n.Kids), func(i, j int) { n.Kids[i], n.Kids[j] = n.Kids[j], n.Kids[i] })
		return n
	}
	return anyValue(r)
}

func TestFullOfSpoiltTrees(t *testing.T) {
	r := rand.New(rand.NewSource(77))
	ways := map[string]int{}
	start := []node{impl.FullTree(webOrder()), impl.FullTree(fullOrder()), leastFull(t)}
	for range 60000 {
		n := start[r.Intn(len(start))]
		for range r.Intn(4) {
			n = spoiltTree(r, n)
		}
		ways[fullHeld(t, n)]++
		if t.Failed() {
			t.Fatalf("%s", brief(n))
		}
	}
	for _, way := range []string{"", ".", "high", "kind", "low", "metrics", "name", "notes", "pace", "target", "metrics/1", "metrics/0/goal", "metrics/1/kind", "metrics/1/name", "metrics/0/zz", "metrics/0/", "notes/owner", "notes/a b", "notes/", "pace/up", "pace/upspan", "pace/down", "pace/downspan", "pace/zz", "pace/", "zz", "share"} {
		if ways[way] < 3 {
			t.Errorf("the way %q was told %d times", way, ways[way])
		}
	}
}
