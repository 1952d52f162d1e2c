package tests

import (
	"strings"
	"testing"

	"loop.example/g00465/impl"
)

// pacesKept are notes of each kind of number and span.
func pacesKept() map[string]impl.Pace {
	return map[string]impl.Pace{
		`{"down":0,"downspan":"0s","up":0,"upspan":"0s"}`:          {},
		`{"down":0,"downspan":"5m","up":0,"upspan":"1s"}`:          {UpSpan: 1, DownSpan: 300},
		`{"down":0,"downspan":"5m","up":1,"upspan":"0s"}`:          {Up: 1, DownSpan: 300},
		`{"down":1,"downspan":"5m","up":0,"upspan":"0s"}`:          {Down: 1, DownSpan: 300},
		`{"down":0,"downspan":"299s","up":0,"upspan":"0s"}`:        {DownSpan: 299},
		`{"down":0,"downspan":"301s","up":0,"upspan":"0s"}`:        {DownSpan: 301},
		`{"down":0,"downspan":"0s","up":0,"upspan":"5m"}`:          {UpSpan: 300},
		`{"down":1000,"downspan":"1h","up":1000,"upspan":"1h"}`:    {Up: 1000, Down: 1000, UpSpan: 3600, DownSpan: 3600},
		`{"down":7,"downspan":"59m","up":8,"upspan":"61s"}`:        {Up: 8, Down: 7, UpSpan: 61, DownSpan: 3540},
		`{"down":999,"downspan":"3599s","up":10,"upspan":"3541s"}`: {Up: 10, Down: 999, UpSpan: 3541, DownSpan: 3599},
	}
}

// noPaces are texts of notes that are refused, by why.
func noPaces() map[string][]string {
	return map[string][]string{
		"no braced text": {"", " ", "x", "pace", "down: 1", "{", "}", "{}}", "{} x", `{"up":}`, `{"up":1,}`, `{'up':1}`, `{"up" 1}`, `{"up":01}`, `{"up":+1}`, `{"up":1.0}`, `{"up":1e1}`, `{"up":1,"up":1}`, "\x00", "{\"up\":1}\x00", "\u00e9", "nul", "NULL", "-", `"`, strings.Repeat("[", 400), strings.Repeat("[", 100000), strings.Repeat(" ", 7000)},
		"of no map":      {"null", "true", "false", "0", "1", "-1", `""`, `"up"`, `"{}"`, "[]", `["up"]`, `[{"down":1,"downspan":"1m","up":3,"upspan":"30s"}]`, `"{\"down\":1,\"downspan\":\"1m\",\"up\":3,\"upspan\":\"30s\"}"`},
		"strange Keys":   {`{"x":1}`, `{"":1}`, `{".":1}`, `{"Up":1}`, `{"down":1,"downspan":"1m","up":3,"upspan":"30s","x":1}`, `{"":0,"down":1,"downspan":"1m","up":3,"upspan":"30s"}`, `{"down":1,"downspan":"1m","pace":{},"up":3,"upspan":"30s"}`, `{"pace":{"down":1,"downspan":"1m","up":3,"upspan":"30s"}}`, `{"quay/pace":"{}"}`},
		"values that do not fit": {
			`{"down":-1,"downspan":"1m","up":3,"upspan":"30s"}`, `{"down":1001,"downspan":"1m","up":3,"upspan":"30s"}`, `{"down":"1","downspan":"1m","up":3,"upspan":"30s"}`, `{"down":null,"downspan":"1m","up":3,"upspan":"30s"}`,
			`{"down":1,"downspan":"1m","up":-1,"upspan":"30s"}`, `{"down":1,"downspan":"1m","up":1001,"upspan":"30s"}`, `{"down":1,"downspan":"1m","up":true,"upspan":"30s"}`, `{"down":1,"downspan":"1m","up":1000000000001,"upspan":"30s"}`,
			`{"down":1,"downspan":"","up":3,"upspan":"30s"}`, `{"down":1,"downspan":60,"up":3,"upspan":"30s"}`, `{"down":1,"downspan":"2h","up":3,"upspan":"30s"}`, `{"down":1,"downspan":"3601s","up":3,"upspan":"30s"}`, `{"down":1,"downspan":"1","up":3,"upspan":"30s"}`,
			`{"down":1,"downspan":"1m","up":3,"upspan":"61m"}`, `{"down":1,"downspan":"1m","up":3,"upspan":"-1s"}`, `{"down":1,"downspan":"1m","up":3,"upspan":[]}`, `{"down":1,"downspan":"1m","up":3,"upspan":"1d"}`,
		},
		"as new": {`{"down":0,"downspan":"5m","up":0,"upspan":"0s"}`, `{}`, `{ }`, `{"up":0}`, `{"downspan":"5m"}`, `{"downspan":"300s"}`, `{"down":0,"downspan":"300s","up":0,"upspan":"0s"}`, `{"down":0,"downspan":"5m","up":0,"upspan":"0h"}`, `{"down": 0,"downspan":"5m","up":0,"upspan":"0s"}`, `{"upspan":"0s","up":0,"downspan":"5m","down":0}`},
		"other blanks": {
			` {"down":1,"downspan":"1m","up":3,"upspan":"30s"}`, `{"down":1,"downspan":"1m","up":3,"upspan":"30s"} `, `{ "down":1,"downspan":"1m","up":3,"upspan":"30s"}`, `{"down" :1,"downspan":"1m","up":3,"upspan":"30s"}`, `{"down": 1,"downspan":"1m","up":3,"upspan":"30s"}`, `{"down":1, "downspan":"1m","up":3,"upspan":"30s"}`, `{"down":1,"downspan":"1m","up":3,"upspan":"30s" }`,
			"{\"down\":1,\"downspan\":\"1m\",\"up\":3,\"upspan\":\"30s\"}\n", "{\"down\":1,\t\"downspan\":\"1m\",\"up\":3,\"upspan\":\"30s\"}", "\r{\"down\":1,\"downspan\":\"1m\",\"up\":3,\"upspan\":\"30s\"}",
		},
		"another order":  {`{"downspan":"1m","down":1,"up":3,"upspan":"30s"}`, `{"down":1,"downspan":"1m","upspan":"30s","up":3}`, `{"up":3,"upspan":"30s","down":1,"downspan":"1m"}`, `{"upspan":"30s","up":3,"downspan":"1m","down":1}`},
		"some not there": {`{"downspan":"1m","up":3,"upspan":"30s"}`, `{"down":1,"up":3,"upspan":"30s"}`, `{"down":1,"downspan":"1m","upspan":"30s"}`, `{"down":1,"downspan":"1m","up":3}`, `{"up":3}`, `{"down":1}`, `{"upspan":"30s"}`, `{"downspan":"1m"}`, `{"downspan":"5m","up":3,"upspan":"0s"}`},
		"other writings": {`{"down":1,"downspan":"60s","up":3,"upspan":"30s"}`, `{"down":1,"downspan":"0m","up":3,"upspan":"30s"}`, `{"down":1,"downspan":"60m","up":3,"upspan":"30s"}`, `{"down":1,"downspan":"3600s","up":3,"upspan":"30s"}`, `{"down":1,"downspan":"1m","up":3,"upspan":"0h"}`, `{"down":-0,"downspan":"1m","up":3,"upspan":"30s"}`, `{"down":1,"downspan":"1m","up":3,"upspan":"120s"}`, "down: 1\ndownspan: 1m\nup: 3\nupspan: 30s\n"},
	}
}

func TestMidOfKeptPaces(t *testing.T) {
	for s, p := range pacesKept() {
		for _, o := range []order{webOrder(), fullOrder(), leastOrder()} {
			o.Pace = p
			tree := putAt(midModel(o), textNode(s), "notes", "quay/pace")
			wantMid(t, tree, o)
			wantTree(t, "MidTree", impl.MidTree(o), tree)
		}
	}
}

func TestMidOfNotesThatKeepNoPace(t *testing.T) {
	for why, texts := range noPaces() {
		for _, s := range texts {
			for _, base := range midBases() {
				tree := putAt(base, textNode(s), "notes", "quay/pace")
				if _, way := impl.MidOf(tree); way != "notes/quay/pace" {
					t.Errorf("%s: of %.80q the way is %q", why, s, way)
				}
				wantMidWay(t, tree, "notes/quay/pace")
			}
		}
	}
}

// A text that is changed in one byte is another Pace's, or none: never the same one's.
func TestMidOfNotesChangedInOneByte(t *testing.T) {
	was := `{"down":1,"downspan":"1m","up":3,"upspan":"30s"}`
	read, refused := 0, 0
	for i := range len(was) {
		texts := []string{was[:i] + was[i+1:]}
		for c := range 128 {
			texts = append(texts, was[:i]+string(rune(c))+was[i+1:], was[:i]+string(rune(c))+was[i:])
		}
		for _, s := range texts {
			if s == was {
				continue
			}
			tree := putAt(leastMid(), textNode(s), "notes", "quay/pace")
			p, fits := keptPace(s)
			if fits && p != webOrder().Pace {
				wantMid(t, tree, withPace(leastOrder(), p))
				read++
			} else {
				wantMidWay(t, tree, "notes/quay/pace")
				refused++
			}
		}
	}
	if read < 50 || refused < 5000 {
		t.Errorf("%d are read, %d refused", read, refused)
	}
}

// Another note that begins with `quay/`: the first one, but behind a `quay/pace` that is wrong.
func TestMidOfOwnNotes(t *testing.T) {
	kept := paceWord(webOrder().Pace)
	ahead := []string{"quay/", "quay/-", "quay/Pace", "quay/a", "quay/metrics", "quay/pac"}
	behind := []string{"quay/pace-", "quay/pace/", "quay/pace/x", "quay/pacer", "quay/q", "quay/x", "quay/zz"}
	both := append(append([]string{}, ahead...), behind...)
	for _, base := range midBases() {
		for i, key := range both {
			for _, s := range []string{"", "x", "[]", kept, strings.Repeat("x", 41)} {
				one := putAt(base, textNode(s), "notes", key)
				wantMidWay(t, one, "notes/"+key)
				wantMidWay(t, putAt(one, textNode(kept), "notes", "quay/pace"), "notes/"+key)
				wantMidWay(t, putAt(one, textNode("{}"), "notes", "quay/pace"), "notes/quay/pace")
			}
			for _, other := range both[i+1:] {
				two := putAt(putAt(base, textNode(""), "notes", other), textNode(""), "notes", key)
				wantMidWay(t, two, "notes/"+key)
				wantMidWay(t, putAt(two, textNode(kept), "notes", "quay/pace"), "notes/"+key)
				wantMidWay(t, putAt(two, textNode(kept+" "), "notes", "quay/pace"), "notes/quay/pace")
			}
		}
	}
	// What only looks like one of these is a note as any other.
	for _, key := range []string{"quay", "quays/pace", "Quay/pace", "quay-/pace", "quay.pace", "a/quay/pace", "pace"} {
		want := withNotes(leastOrder(), noteOf(key, "x"))
		wantMid(t, putAt(leastMid(), textNode("x"), "notes", key), want)
	}
}
