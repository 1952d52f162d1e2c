package tests

import (
	"math"
	"slices"
	"strings"
	"testing"

	"loop.example/g00465/impl"
)

func wantPace(t *testing.T, tree node, want impl.Pace) {
	t.Helper()
	if got, way := impl.PaceOf(tree); way != "" || got != want {
		t.Errorf("PaceOf(%s) = %+v, %q, want %+v", brief(tree), got, way, want)
	}
}

func wantPaceWay(t *testing.T, tree node, want string) {
	t.Helper()
	if got, way := impl.PaceOf(tree); way != want || got != (impl.Pace{}) {
		t.Errorf("PaceOf(%s) = %+v, %.80q, want zero and %.80q", brief(tree), got, way, want)
	}
}

func TestPaceOf(t *testing.T) {
	whole := impl.Pace{Up: 7, Down: 8, UpSpan: 9, DownSpan: 10}
	fields := map[string]func(to *impl.Pace){
		"down":     func(to *impl.Pace) { to.Down = whole.Down },
		"downspan": func(to *impl.Pace) { to.DownSpan = whole.DownSpan },
		"up":       func(to *impl.Pace) { to.Up = whole.Up },
		"upspan":   func(to *impl.Pace) { to.UpSpan = whole.UpSpan },
	}
	keys := []string{"down", "downspan", "up", "upspan"}
	// What is not there is as PaceNew has it, whichever are there.
	for some := range 16 {
		tree, want := impl.PaceTree(whole), impl.Pace{Up: 0, Down: 0, UpSpan: 0, DownSpan: 300}
		for i, key := range keys {
			if some>>i&1 == 0 {
				tree = impl.Unset(tree, key)
			} else {
				fields[key](&want)
			}
		}
		wantPace(t, tree, want)
	}
	for _, n := range append(otherKinds(impl.NdMap), disguised(impl.PaceTree(whole))...) {
		wantPaceWay(t, n, ".")
	}
}

func paceWith(key string, x node) node {
	return impl.Set(impl.PaceTree(impl.Pace{Up: 1, Down: 2, UpSpan: 3, DownSpan: 4}), key, x)
}

func TestPaceOfValues(t *testing.T) {
	for n, ok := range edges(0, 1000) {
		up, down := paceWith("up", intNode(n)), paceWith("down", intNode(n))
		if ok {
			wantPace(t, up, impl.Pace{Up: n, Down: 2, UpSpan: 3, DownSpan: 4})
			wantPace(t, down, impl.Pace{Up: 1, Down: n, UpSpan: 3, DownSpan: 4})
		} else {
			wantPaceWay(t, up, "up")
			wantPaceWay(t, down, "down")
		}
	}
	spans := map[string]int{"0s": 0, "0m": 0, "0h": 0, "1s": 1, "59s": 59, "60s": 60, "1m": 60, "61s": 61, "90s": 90, "59m": 3540, "60m": 3600, "3599s": 3599, "3600s": 3600, "1h": 3600}
	for s, n := range spans {
		wantPace(t, paceWith("upspan", textNode(s)), impl.Pace{Up: 1, Down: 2, UpSpan: n, DownSpan: 4})
		wantPace(t, paceWith("downspan", textNode(s)), impl.Pace{Up: 1, Down: 2, UpSpan: 3, DownSpan: n})
	}
	for _, s := range []string{"3601s", "61m", "2h", "1000000s", "1000001s", "277h", "", "0", "1", "s", "m", "-1s", "+1s", "01s", "1 s", "1S", "1ms", "1k", " 1s", "1s ", "1s\n", "99999999999999999999s"} {
		wantPaceWay(t, paceWith("upspan", textNode(s)), "upspan")
		wantPaceWay(t, paceWith("downspan", textNode(s)), "downspan")
	}
	for _, n := range append(otherKinds(impl.NdInt), disguised(intNode(5))...) {
		wantPaceWay(t, paceWith("up", n), "up")
		wantPaceWay(t, paceWith("down", n), "down")
	}
	for _, n := range append(otherKinds(impl.NdText), disguised(textNode("1m"))...) {
		wantPaceWay(t, paceWith("upspan", n), "upspan")
		wantPaceWay(t, paceWith("downspan", n), "downspan")
	}
}

func TestPaceOfWays(t *testing.T) {
	for s, want := range map[string]string{
		`{"x":1}`: "x", `{"name":1}`: "name", `{"Up":1}`: "Up", `{"up ":1}`: "up ", `{"upspans":"1s"}`: "upspans", `{".":1}`: ".", `{"a/b":1}`: "a/b", `{"y":1,"x":1}`: "x", `{"A":1,"zz":1}`: "A",
		`{"down":-1,"zz":1}`: "zz", `{"up":-1,"a":1}`: "a", `{"down":-1,"downspan":"x","dz":0,"up":-1,"upspan":"x"}`: "dz",
		`{"down":-1,"downspan":"x","up":-1,"upspan":"x"}`: "down", `{"downspan":"x","up":-1,"upspan":"x"}`: "downspan", `{"up":-1,"upspan":"x"}`: "up", `{"upspan":"x"}`: "upspan", `{"down":1,"upspan":"x","up":1001}`: "up", `{"upspan":"2h","down":1001}`: "down",
		`{"up":null}`: "up", `{"upspan":null}`: "upspan", `{"up":{"x":1}}`: "up", `{"downspan":["1s"]}`: "downspan",
	} {
		wantPaceWay(t, written(t, s), want)
	}
	// A Key may be empty: then so is the way to it.
	wantPaceWay(t, written(t, `{"":1}`), "")
	wantPaceWay(t, written(t, `{"":1,"x":1,"up":5}`), "")
}

func TestFarIntsAreNoPace(t *testing.T) {
	for _, n := range []int{math.MinInt, math.MaxInt, 1 << 32, -1 << 32, 1<<32 + 5} {
		wantPaceWay(t, mapNode([]string{"up"}, intNode(n)), "up")
		wantPaceWay(t, mapNode([]string{"down"}, intNode(n)), "down")
	}
}
func wantNotes(t *testing.T, tree node, want ...note) {
	t.Helper()
	if got, way := impl.NotesOf(tree); way != "" || !slices.Equal(got, want) {
		t.Errorf("NotesOf(%s) = %+v, %q, want %+v", brief(tree), got, way, want)
	}
}

func wantNotesWay(t *testing.T, tree node, want string) {
	t.Helper()
	if got, way := impl.NotesOf(tree); way != want || len(got) != 0 {
		t.Errorf("NotesOf(%s) = %+v, %.80q, want nothing and %.80q", brief(tree), got, way, want)
	}
}

func TestNotesOf(t *testing.T) {
	long := strings.Repeat("x", impl.MaxText)
	wantNotes(t, mapNode(nil))
	wantNotes(t, written(t, `{"owner":"me"}`), noteOf("owner", "me"))
	wantNotes(t, written(t, `{"b":"1","a":"","A":" ~"}`), noteOf("A", " ~"), noteOf("a", ""), noteOf("b", "1"))
	// All notes: those of the poorer shapes, too; how many, and how long, is for OrderOk to say.
	wantNotes(t, written(t, `{"quay/pace":"{}","quay/":"","quay":"q","quay/x/y":"z"}`), noteOf("quay", "q"), noteOf("quay/", ""), noteOf("quay/pace", "{}"), noteOf("quay/x/y", "z"))
	wantNotes(t, mapOf(map[string]node{"quay/pace": textNode(long), "a": textNode(long[:41])}), noteOf("a", long[:41]), noteOf("quay/pace", long))
	wantNotes(t, written(t, `{"a":"1","b":"2","c":"3","d":"4","e":"5","f":"6"}`), noteOf("a", "1"), noteOf("b", "2"), noteOf("c", "3"), noteOf("d", "4"), noteOf("e", "5"), noteOf("f", "6"))
	for _, n := range append(otherKinds(impl.NdMap), disguised(written(t, `{"owner":"me"}`))...) {
		wantNotesWay(t, n, ".")
	}
	for _, key := range []string{"", " ", ".", "/", "0", "-a", "a b", "a:", "a~", "null", "true", "false", "quay/ ", "\x00", "\u00e9", strings.Repeat("a", 61), "quay/" + strings.Repeat("a", 56)} {
		wantNotesWay(t, mapNode([]string{key}, textNode("x")), key)
		wantNotesWay(t, mapNode([]string{key}, intNode(1)), key)
	}
	for _, key := range []string{"a", "Z", "nulls", "a.b/c-1_Z", strings.Repeat("a", 60), "quay/" + strings.Repeat("a", 55)} {
		wantNotes(t, mapNode([]string{key}, textNode("x")), noteOf(key, "x"))
		for _, n := range append(otherKinds(impl.NdText), disguised(textNode("x"))...) {
			wantNotesWay(t, mapNode([]string{key}, n), key)
		}
	}
	for s, want := range map[string]string{
		`{"a":"x","b":1,"c":"y"}`: "b", `{"a":1,"b":1}`: "a", `{"b":1,"a b":"x"}`: "a b", `{"a":"x","z":{},"y":[]}`: "y", `{"b c":"x","a b":"x"}`: "a b", `{"A":1,"a":"x","quay/pace":1}`: "A", `{"a":"x","quay/pace":1,"r":1}`: "quay/pace", `{"a":1,"b c":"x"}`: "a",
	} {
		wantNotesWay(t, written(t, s), want)
	}
}
