package tests

import (
	"strings"
	"testing"

	"loop.example/g00465/impl"
)

// idle are lines that say nothing.
func idle() []string {
	return []string{"", " ", "   ", "#", "# a: 1", "#a", "  # b", "   #", "##", "#\t\xff\x00\""}
}

// cutLines are the lines of a text, by the test's own means.
func cutLines(s string) []string {
	lines := strings.Split(s, "\n")
	if lines[len(lines)-1] == "" {
		lines = lines[:len(lines)-1]
	}
	return lines
}

// spread is a text with an idle line ahead of each of its lines.
func spread(s string, between string) string {
	var out []string
	for _, line := range cutLines(s) {
		out = append(out, between, line)
	}
	return text(out...)
}

func TestOutlineReads(t *testing.T) {
	one, two := intNode(1), intNode(2)
	rows := []struct {
		s    string
		want node
	}{
		{text("null"), node{}},
		{text("true"), flagNode(1)},
		{text("false"), flagNode(0)},
		{text("7"), intNode(7)},
		{text("-7"), intNode(-7)},
		{text("-0"), intNode(0)},
		{text("web"), textNode("web")},
		{text("n"), textNode("n")},
		{text("Null"), textNode("Null")},
		{text(strings.Repeat("a", 60)), textNode(strings.Repeat("a", 60))},
		{text(`"` + strings.Repeat("a", 61) + `"`), textNode(strings.Repeat("a", 61))},
		{text(`"web"`), textNode("web")},
		{text(`"null"`), textNode("null")},
		{text(`""`), textNode("")},
		{text(`"a:"`), textNode("a:")},
		{text(`"a\": 1"`), textNode(`a": 1`)},
		{text(`"# \/"`), textNode("# /")},
		{text("[]"), listNode()},
		{text("{}"), mapNode(nil)},
		{text("[ 1,\t2 ]\r"), listNode(one, two)},
		{text("\t1\t"), one},
		{text("1 "), one},
		{text("1\r"), one},
		{text(`{"b":1,"a":[2]}  `), mapNode([]string{"a", "b"}, listNode(two), one)},

		{text("- 1"), listNode(one)},
		{text("- 2", "- 1", "- 2"), listNode(two, one, two)},
		{text("-  1"), listNode(one)},
		{text("- \t1 "), listNode(one)},
		{text("- -1"), listNode(intNode(-1))},
		{text("- web", "- null", "- true", `- "x y"`, "- {}", "- []"), listNode(textNode("web"), node{}, flagNode(1), textNode("x y"), mapNode(nil), listNode())},
		{text("-", "  - 1", "  - 2"), listNode(listNode(one, two))},
		{text("-", "  - 1", "-", "  - 2"), listNode(listNode(one), listNode(two))},
		{text("-", "  -", "    -", "      - 1", "- 2"), listNode(listNode(listNode(listNode(one))), two)},
		{text("-", "  -", "    - 1", "  - 2", "-", "  a: 1"), listNode(listNode(listNode(one), two), mapNode([]string{"a"}, one))},
		{text("-", "  b: 2", "  a: 1", "- x"), listNode(mapNode([]string{"a", "b"}, one, two), textNode("x"))},
		{text(`- {"b": [1, 2], "a": {}}`, "- [[]]"), listNode(mapNode([]string{"a", "b"}, mapNode(nil), listNode(one, two)), listNode(listNode()))},

		{text("a: 1"), mapNode([]string{"a"}, one)},
		{text("b: 2", "a: 1"), mapNode([]string{"a", "b"}, one, two)},
		{text("a:  1"), mapNode([]string{"a"}, one)},
		{text("a: \t1\r"), mapNode([]string{"a"}, one)},
		{text("a: a"), mapNode([]string{"a"}, textNode("a"))},
		{text("a: -1", `b: "-"`, "c: {}", "d: []", "e: null"), mapNode([]string{"a", "b", "c", "d", "e"}, intNode(-1), textNode("-"), mapNode(nil), listNode(), node{})},
		{text(`"": 1`), mapNode([]string{""}, one)},
		{text(`"a": 1`, "b: 2"), mapNode([]string{"a", "b"}, one, two)},
		{text(`"x y": 1`, `"a: b": 2`), mapNode([]string{"a: b", "x y"}, two, one)},
		{text(`"\"": 1`, `"\\": 2`, `"\/":`, `  "\"\/\\": 1`), mapNode([]string{`"`, "/", `\`}, one, mapNode([]string{`"/\`}, one), two)},
		{text(`"null": 1`, `"true": 1`, `"false": null`), mapNode([]string{"false", "null", "true"}, node{}, one, one)},
		{text(`":": 1`, `"": 1`, `"-": 1`, `"#": 1`), mapNode([]string{"", "#", "-", ":"}, one, one, one, one)},
		{text("nulls: 1", "true.: 1", "False: 1"), mapNode([]string{"False", "nulls", "true."}, one, one, one)},
		{text("a.b/c-1_Z: 1"), mapNode([]string{"a.b/c-1_Z"}, one)},
		{text(strings.Repeat("k", 60) + ": 1"), mapNode([]string{strings.Repeat("k", 60)}, one)},
		{text(`"` + strings.Repeat("k", 61) + `": 1`), mapNode([]string{strings.Repeat("k", 61)}, one)},
		{text("b:", "  a: 1", "a:", "  b:", "    a: 2", "    b: 1"), mapNode([]string{"a", "b"}, mapNode([]string{"b"}, mapNode([]string{"a", "b"}, two, one)), mapNode([]string{"a"}, one))},
		{text("b:", "  - 1", "  -", "    - 2", "    -", "      z: x", "a: 2"), mapNode([]string{"a", "b"}, two, listNode(one, listNode(two, mapNode([]string{"z"}, textNode("x")))))},
		{text("a:", "  a:", "    a:", "      a: 1", "b: 2"), mapNode([]string{"a", "b"}, mapNode([]string{"a"}, mapNode([]string{"a"}, mapNode([]string{"a"}, one))), two)},
		{text("a:", "  a:", "    a: 1", "  b: 2"), mapNode([]string{"a"}, mapNode([]string{"a", "b"}, mapNode([]string{"a"}, one), two))},
	}
	for _, r := range rows {
		wantOutline(t, r.s, r.want)
		wantOutline(t, strings.TrimSuffix(r.s, "\n"), r.want)
		for _, line := range idle() {
			wantOutline(t, line+"\n"+r.s, r.want)
			wantOutline(t, r.s+line, r.want)
			wantOutline(t, r.s+line+"\n", r.want)
			wantOutline(t, spread(r.s, line), r.want)
			wantOutline(t, strings.TrimSuffix(spread(r.s, line), "\n"), r.want)
		}
	}
}

func TestOutlineOfNothing(t *testing.T) {
	wantLine(t, "", 0)
	for _, line := range idle() {
		want := 1
		if line == "" {
			want = 0
		}
		wantLine(t, line, want)
		wantLine(t, line+"\n", 1)
		wantLine(t, line+"\n"+line+"\n", 2)
		wantLine(t, line+"\n\n"+line+"\n", 3)
		wantLine(t, line+"\n\n\n", 3)
	}
	wantLine(t, text(idle()...), len(idle()))
	wantLine(t, strings.Repeat("\n", 100), 100)
	wantLine(t, strings.Repeat("\n", 100)+"  # x", 101)
}

// wantMisfit asks for the number of a line, and for it again with lines that say nothing ahead of the text, ahead of each of its lines, and behind it.
func wantMisfit(t *testing.T, s string, want int) {
	t.Helper()
	count := len(cutLines(s))
	missing := want == count
	wantLine(t, s, want)
	wantLine(t, strings.TrimSuffix(s, "\n"), want)
	for _, line := range idle() {
		wantLine(t, line+"\n"+s, want+1)
		wantLine(t, "\n#\n"+line+"\n"+s, want+3)
		spreadWant, behindWant := 2*want+1, want
		if missing {
			spreadWant, behindWant = 2*count, want+2
		}
		wantLine(t, spread(s, line), spreadWant)
		wantLine(t, s+line+"\n\n", behindWant)
	}
	if missing {
		return
	}
	// What stands behind the first line that does not fit changes nothing.
	for _, more := range []string{"a: 1", "- 1", "  - 1", "    a:", "x y", "\t", strings.Repeat("#", impl.MaxBytes)} {
		wantLine(t, s+more, want)
		wantLine(t, text(cutLines(s)[:want+1]...)+more+"\n", want)
	}
}

func TestOutlineHowFarIn(t *testing.T) {
	rows := []struct {
		want  int
		lines []string
	}{
		{0, []string{" 1"}}, {0, []string{" a: 1"}}, {0, []string{"  a: 1"}}, {0, []string{" - 1"}}, {0, []string{"  - 1"}}, {0, []string{"  web"}}, {0, []string{"    {}"}}, {0, []string{"  -"}},
		{1, []string{"a: 1", " b: 2"}}, {1, []string{"a: 1", "  b: 2"}}, {1, []string{"a: 1", "   b: 2"}}, {1, []string{"- 1", " - 2"}}, {1, []string{"- 1", "  - 2"}},
		{1, []string{"a: 1", "  - 2"}}, {1, []string{"- 1", "  a: 2"}}, {1, []string{"a: {}", "  b: 1"}}, {1, []string{"a: []", "  - 1"}}, {1, []string{"- []", "  - 1"}}, {1, []string{"1", "  a: 1"}}, {1, []string{"[]", "  - 1"}},
		{1, []string{"a:", " b: 1"}}, {1, []string{"a:", "   b: 1"}}, {1, []string{"a:", "    b: 1"}}, {1, []string{"a:", "b: 1"}}, {1, []string{"a:", "- 1"}}, {1, []string{"a:", "a: 1"}}, {1, []string{"a:", "a:"}},
		{1, []string{"-", " - 1"}}, {1, []string{"-", "   - 1"}}, {1, []string{"-", "    - 1"}}, {1, []string{"-", "- 1"}}, {1, []string{"-", "-"}}, {1, []string{"-", "a: 1"}},
		{2, []string{"a:", "  b: 1", " c: 2"}}, {2, []string{"a:", "  b: 1", "   c: 2"}}, {2, []string{"a:", "  b: 1", "    c: 2"}}, {2, []string{"a:", "  - 1", " - 2"}}, {2, []string{"a:", "  - 1", "   - 2"}}, {2, []string{"a:", "  - 1", "    - 2"}},
		{2, []string{"-", "  - 1", " - 2"}}, {2, []string{"-", "  -", "  - 1"}}, {2, []string{"-", "  -", "- 1"}}, {2, []string{"-", "  a:", "  b: 1"}}, {2, []string{"a:", "  b:", "c: 1"}}, {2, []string{"a:", "  b:", "   c: 1"}}, {2, []string{"a:", "  b:", "      c: 1"}},
		{3, []string{"a:", "  b:", "    c: 1", "   d: 1"}}, {3, []string{"a:", "  b:", "    c: 1", " d: 1"}}, {3, []string{"a:", "  b:", "    c: 1", "      d: 1"}}, {4, []string{"a:", "  b:", "    c: 1", "  d: 1", "    e: 1"}}, {4, []string{"a:", "  b:", "    c: 1", "d: 1", "  e: 1"}}, {4, []string{"-", "  -", "    - 1", "- 1", "    - 2"}},
		{1, []string{"a:", "\tb: 1"}}, {1, []string{"a:", " \tb: 1"}}, {1, []string{"-", "\t\t- 1"}}, {1, []string{"a: 1", "\tb: 1"}},
	}
	for _, r := range rows {
		wantMisfit(t, text(r.lines...), r.want)
	}
}

func TestOutlineMissing(t *testing.T) {
	for _, lines := range [][]string{
		{"a:"}, {"-"}, {`"":`}, {`"a b":`}, {"a: 1", "b:"}, {"- 1", "-"}, {"a:", "  b:"}, {"a:", "  -"}, {"-", "  -"}, {"-", "  a:"},
		{"a:", "  b: 1", "c:"}, {"a:", "  b: 1", "  c:"}, {"-", "  - 1", "-"}, {"-", "  - 1", "  -"}, {"-", "  -", "    a:"}, {"a:", "  b:", "    c:", "      -", "        d:"},
	} {
		wantMisfit(t, text(lines...), len(lines))
	}
	// Behind it stands a line, but none further in: that is the one that does not fit.
	wantMisfit(t, text("a:", "b:", "  c: 1"), 1)
	wantMisfit(t, text("a:", "  b:", "  c: 1"), 2)
	wantMisfit(t, text("-", "- 1"), 1)
	wantMisfit(t, text("-", "  a:", "- 1"), 2)
}

func TestOutlineWhatStandsSoFarIn(t *testing.T) {
	rows := []struct {
		want  int
		lines []string
	}{
		{1, []string{"- 1", "b: 2"}}, {1, []string{"a: 1", "- 2"}}, {1, []string{"- 1", "b:"}}, {1, []string{"a: 1", "-"}}, {1, []string{"- 1", "2"}}, {1, []string{"- 1", "web"}}, {1, []string{"a: 1", "web"}}, {1, []string{"a: 1", "{}"}},
		{2, []string{"a:", "  - 1", "  b: 2"}}, {2, []string{"a:", "  b: 1", "  - 2"}}, {2, []string{"-", "  - 1", "  b: 2"}}, {2, []string{"-", "  a: 1", "  - 2"}}, {2, []string{"a:", "  b: 1", "- 1"}}, {2, []string{"-", "  - 1", "a: 1"}},
		{1, []string{"a:", "  1"}}, {1, []string{"a:", "  web"}}, {1, []string{"a:", "  {}"}}, {1, []string{"a:", `  "x"`}}, {1, []string{"-", "  1"}}, {1, []string{"-", "  web"}}, {1, []string{"-", "  []"}}, {1, []string{"-", "  null"}}, {2, []string{"a:", "  b: 1", "  web"}}, {2, []string{"a:", "  -", "    1"}},
		{1, []string{"1", "2"}}, {1, []string{"1", "1"}}, {1, []string{"web", "web"}}, {1, []string{"web", "a: 1"}}, {1, []string{"web", "- 1"}}, {1, []string{"{}", "{}"}}, {1, []string{"{}", "a: 1"}}, {1, []string{"[]", "- 1"}}, {1, []string{"null", "null"}}, {1, []string{`"a"`, "b"}}, {1, []string{"1", " 2"}}, {1, []string{`{"a":1}`, `"b": 1`}},
		{0, []string{"{", `"a":1`, "}"}}, {0, []string{"[", "1", "]"}}, {0, []string{"[1,", "2]"}}, {1, []string{"a: 1", "b: [1,", "2]"}},
		{1, []string{"a: 1", "\r"}}, {1, []string{"a: 1", "\t"}}, {0, []string{"\t# a"}}, {0, []string{"\r", "1"}}, {1, []string{"1", "\v"}}, {1, []string{"1", "\x00"}}, {1, []string{"- 1", "..."}}, {0, []string{"---", "a: 1"}}, {0, []string{"%", "1"}}, {0, []string{"// a", "1"}}, {0, []string{"; a", "1"}},
	}
	for _, r := range rows {
		wantMisfit(t, text(r.lines...), r.want)
	}
}

// Each of these is nothing that could stand in a line.
func TestOutlineLinesThatAreNone(t *testing.T) {
	for _, line := range []string{
		"a:1", "a:web", "a:[]", "a :1", "a : 1", "a :", "a:\t1", "a:\t", "a:\r", "a::", "a:: 1", ":", ": 1", ":: 1", "a", "a b: 1", " : 1", "a=1",
		"1: 1", "-a: 1", "_a: 1", ".a: 1", "/: 1", "null: 1", "true: 1", "false: 1", "null:", "true:", "false:", "a b:", "a,b: 1", "\u00e9: 1", "a\x00: 1", "{}: 1", "[]: 1", "[a]: 1", "'a': 1", "? a: 1", "&a: 1",
		strings.Repeat("k", 61) + ": 1", strings.Repeat("k", 61) + ":", strings.Repeat("k", 401) + ": 1",
		`"a":1`, `"a" : 1`, `"a" :`, `"a":` + "\t", `"a"`, `"a: 1`, `"a:`, `a": 1`, `"a"b: 1`, `"a"": 1`, `"a\n": 1`, `"a\": 1`, `"a\u0041": 1`, "\"a\tb\": 1", "\"\x7f\": 1", "\"\xff\": 1", "\"\u00e9\": 1", `\"a": 1`, `"\": 1`, `""": 1`,
		"-1", "-a", "--", "-- 1", "-- a", "-:", "-: 1", "-\t1", "-\t", "-\r", "-[]", "-{}", "-#", "-\x00", "+ 1", "* 1",
		"a: x y", "a: x:", "a: b: 1", "a: - 1", "a: -", "a: # b", "a: 1 # b", "a: web # b", "a: web ", "a:  web", "a: \tweb", "a: web\r", "a: web\t", "a: ", "a:  ", "a: \t", "a: \r", "a: 01", "a: 1.5", "a: 1x", "a: +1", "a: nul,", "a: nul ", "a: null null", "a: null x",
		"a: [", "a: ]", "a: {a:1}", "a: [a]", "a: {", `a: {"a"}`, `a: "`, `a: "x`, `a: "x" y`, `a: 'x'`, `a: "\n"`, "a: \u00e9", "a: \x00", "a: \x7f", "a: x\x00", "a: x\xff", "a: _x", "a: .x", "a: /x", "a: x,y", "a: x;", "a: x@y", `a: {"b":1,"b":2}`, `a: {"b":{"c":1,"c":1}}`, "a: " + strings.Repeat("v", 61), "a: |", "a: >", "a: &b", "a: *b", "a: !b",
		"- x y", "- x:", "- a: 1", "- - 1", "- -", "- # b", "- web ", "-  web", "- ", "-  ", "- \t", "- \r", "- 01", "- nul ", "- [", "- {a:1}", `- "x`, "- \x00", "- " + strings.Repeat("v", 61), `- {"b":1,"b":2}`, `- "a": 1`,
	} {
		if alone := line == "a" || line == "-1" || line == `"a"` || line == "-a"; !alone {
			wantMisfit(t, text(line), 0)
		}
		wantMisfit(t, text("a:", "  "+line), 1)
		wantMisfit(t, text("-", "  "+line), 1)
		wantMisfit(t, text("k: 1", line), 1)
		wantMisfit(t, text("- 1", line), 1)
		wantMisfit(t, text("k:", "  - 1", "  - 2", "l: 1", line, "m: 1"), 4)
		wantMisfit(t, text("k:", "  -", "    x: 1", "    "+line), 3)
		wantMisfit(t, text("1", line), 1)
	}
	wantMisfit(t, text("-a"), 0)
}

func TestOutlineAlikeKeys(t *testing.T) {
	rows := []struct {
		want  int
		lines []string
	}{
		{1, []string{"a: 1", "a: 2"}}, {1, []string{"a: 1", "a: 1"}}, {2, []string{"a: 1", "b: 1", "a: 1"}}, {2, []string{"b: 1", "a: 1", "a: 1"}}, {2, []string{"a: 1", "b: 1", "b: 1", "a: 1"}},
		{1, []string{"a: 1", `"a": 2`}}, {1, []string{`"a": 1`, "a: 2"}}, {1, []string{`"": 1`, `"": 2`}}, {1, []string{`"a/b": 1`, `"a\/b": 2`}}, {1, []string{"a/b: 1", `"a\/b": 2`}}, {1, []string{`"x y": 1`, `"x y": 1`}},
		{2, []string{"a:", "  b: 1", "a:", "  c: 1"}}, {2, []string{"a:", "  b: 1", "a: 1"}}, {1, []string{"a: 1", "a:", "  b: 1"}}, {1, []string{"a: 1", "a:"}}, {1, []string{"a: 1", "a: x y"}}, {1, []string{"a: 1", "a:", "x y"}},
		{2, []string{"a:", "  b: 1", "  b: 2"}}, {2, []string{"-", "  b: 1", "  b: 2"}}, {3, []string{"-", "  b:", "    - 1", "  b: 2"}}, {3, []string{"a:", "  b: 1", "b: 1", "a: 1"}}, {4, []string{"a:", "  x: 1", "b:", "  y: 1", "  y: 2", "a: 1"}},
	}
	for _, r := range rows {
		wantMisfit(t, text(r.lines...), r.want)
	}
	for _, lines := range [][]string{{"a: 1", "A: 1", `"a ": 1`, `"": 1`}, {"a:", "  a:", "    a: 1"}, {"a:", "  x: 1", "b:", "  x: 1"}, {"-", "  a: 1", "-", "  a: 1"}, {"- a", "- a"}, {`"\\": 1`, `"\/": 1`}} {
		if got, line := impl.Outline(text(lines...)); line != -1 {
			t.Errorf("Outline(%q) = %s, %d, though no two Keys are alike", lines, brief(got), line)
		}
	}
}

// A byte behind a `-`, a Key or a `:` is the byte 32, or there is none.
func TestOutlineEachByteBehind(t *testing.T) {
	one := intNode(1)
	for b := range 256 {
		c := string([]byte{byte(b)})
		switch c {
		case " ":
			wantOutline(t, "k: 1\na:"+c+"1", mapNode([]string{"a", "k"}, one, one))
			wantOutline(t, "- 1\n-"+c+"1", listNode(one, one))
		case "\n":
			wantLine(t, "k: 1\na:"+c+"1", 2)
			wantLine(t, "- 1\n-"+c+"1", 2)
		default:
			wantLine(t, "k: 1\na:"+c+"1", 1)
			wantLine(t, "- 1\n-"+c+"1", 1)
		}
		if c != "\n" && c != ":" {
			wantLine(t, "k: 1\n\"a\""+c+": 1", 1)
			wantLine(t, "k: 1\n\"a\""+c, 1)
		}
		if plain := strings.Contains(plainBytes, c); plain {
			wantOutline(t, "a"+c+": 1", mapNode([]string{"a" + c}, one))
			wantOutline(t, "- a"+c, listNode(textNode("a"+c)))
		} else if c != "\n" {
			wantLine(t, "k: 1\na"+c+": 1", 1)
			wantLine(t, "- 1\n- a"+c, 1)
		}
		if c != "\n" && c != "#" && c != " " {
			wantLine(t, "k: 1\n"+c, 1)
		}
	}
}
