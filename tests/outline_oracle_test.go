package tests

import (
	"encoding/json"
	"regexp"
	"strings"
	"testing"

	"loop.example/g00465/impl"
)

const plainPart = `[A-Za-z][A-Za-z0-9_./-]{0,59}`

// The test's own telling of a line behind its blanks.
var (
	plainText = regexp.MustCompile(`^` + plainPart + `$`)
	listLine  = regexp.MustCompile(`(?s)^(-)($| (.*)$)`)
	mapLine   = regexp.MustCompile(`(?s)^(` + plainPart + `|"(?:[ !#-\[\]-~]|\\["\\/])*"):($| (.*)$)`)
)

type sayingLine struct {
	number int
	in     int
	said   string
}

// lineWalk reads the lines that say something, each list and map by a call of its own.
type lineWalk struct {
	lines []sayingLine
	at    int
	count int
}

func newLineWalk(s string) *lineWalk {
	w := &lineWalk{}
	for i, line := range cutLines(s) {
		w.count = i + 1
		in := 0
		for in < len(line) && line[in] == ' ' {
			in++
		}
		if in < len(line) && line[in] != '#' {
			w.lines = append(w.lines, sayingLine{i, in, line[in:]})
		}
	}
	return w
}

// line is the line at which the walk is, or a number only: how many there are.
func (w *lineWalk) line() sayingLine {
	if w.at == len(w.lines) {
		return sayingLine{number: w.count, in: -1}
	}
	return w.lines[w.at]
}

func isWord(s string) bool { return s == "null" || s == "true" || s == "false" }

// parts are a line's kind, Key and what is behind it: nothing, or a blank and a value.
func parts(said string) (kind int, key string, behind string) {
	if m := listLine.FindStringSubmatch(said); m != nil {
		return impl.NdList, "", m[2]
	}
	m := mapLine.FindStringSubmatch(said)
	if m == nil || isWord(m[1]) {
		return impl.NdNull, "", said
	}
	if m[1][0] != '"' {
		return impl.NdMap, m[1], m[2]
	}
	if err := json.Unmarshal([]byte(m[1]), &key); err != nil {
		panic(err)
	}
	return impl.NdMap, key, m[2]
}

// lineValue is false of what is no value.
func lineValue(t *testing.T, s string) (node, bool) {
	t.Helper()
	if plainText.MatchString(s) && !isWord(s) {
		return textNode(s), true
	}
	if _, bad := braceFault(s); bad {
		return node{}, false
	}
	n, alike := jsonTree(t, s)
	return n, alike < 0 && len(s) <= impl.MaxBytes && impl.TreeOk(n)
}

// whole is the tree of all lines, and true, or the number of the first one that does not fit.
func (w *lineWalk) whole(t *testing.T) (node, int, bool) {
	t.Helper()
	first := w.line()
	kind, _, _ := parts(first.said)
	var n node
	ok := true
	if first.in == 0 && kind == impl.NdNull {
		if n, ok = lineValue(t, first.said); ok {
			w.at++
		}
	} else {
		n, ok = w.block(t, 0)
	}
	return n, w.line().number, ok && w.at == len(w.lines)
}

// block reads what stands so far in; where it is false, the walk stands at the line that does not fit.
func (w *lineWalk) block(t *testing.T, in int) (node, bool) {
	t.Helper()
	kind, _, _ := parts(w.line().said)
	if w.line().in != in || kind == impl.NdNull {
		return node{}, false
	}
	list, byKey := listNode(), map[string]node{}
	for w.line().in == in {
		k, key, behind := parts(w.line().said)
		if _, twice := byKey[key]; k != kind || twice {
			return node{}, false
		}
		kid, ok := w.kid(t, in, behind)
		if !ok {
			return node{}, false
		}
		if kind == impl.NdList {
			list.Kids = append(list.Kids, kid)
		} else {
			byKey[key] = kid
		}
	}
	if kind == impl.NdList {
		return list, true
	}
	return mapOf(byKey), true
}

func (w *lineWalk) kid(t *testing.T, in int, behind string) (node, bool) {
	t.Helper()
	if behind == "" {
		w.at++
		return w.block(t, in+2)
	}
	n, ok := lineValue(t, behind[1:])
	if ok {
		w.at++
	}
	return n, ok
}

// outlineHeld is Outline of a text, held against what the test's own walk tells.
func outlineHeld(t *testing.T, s string) {
	t.Helper()
	tree, line, ok := newLineWalk(s).whole(t)
	switch {
	case !ok:
		wantLine(t, s, line)
	case len(s) > impl.MaxBytes || !impl.TreeOk(tree):
		wantLine(t, s, 0)
	default:
		wantOutline(t, s, tree)
		for _, again := range []string{impl.Indented(tree), impl.Braced(tree)} {
			if len(again) <= impl.MaxBytes {
				wantOutline(t, again, tree)
			}
		}
	}
}

// All texts of some bytes each, up to a length, are held against the walk.
func TestOutlineOfAllShortTexts(t *testing.T) {
	for _, r := range []struct {
		bytes string
		most  int
	}{
		{"a:\n -", 7},
		{"-\n 1", 7},
		{"a: \n1#", 6},
		{"\":a \n", 6},
		{"\"\\/: a", 6},
		{"[]1 \n-", 6},
		{"a: \t\r\n-", 5},
		{"{}\":1a", 6},
	} {
		for _, s := range allTexts(r.bytes, r.most) {
			outlineHeld(t, s)
		}
	}
}

// allLines are the texts of up to so many of these lines, each so many blanks in.
func allLines(blanks []int, lines []string, most int) []string {
	var in []string
	for _, n := range blanks {
		for _, line := range lines {
			in = append(in, strings.Repeat(" ", n)+line+"\n")
		}
	}
	out, last := []string{}, []string{""}
	for range most {
		var longer []string
		for _, s := range last {
			for _, line := range in {
				longer = append(longer, s+line)
			}
		}
		out, last = append(out, longer...), longer
	}
	return out
}

func TestOutlineOfAllFewLines(t *testing.T) {
	for _, r := range []struct {
		blanks []int
		lines  []string
		most   int
	}{
		{[]int{0, 1, 2, 3, 4}, []string{"", "#", "a:", "b: 1", "-", "- a", "1"}, 3},
		{[]int{0, 2, 4}, []string{"a:", "b: 1", "-", "- a"}, 4},
		{[]int{0, 2}, []string{"a:", "b: 1", "-"}, 6},
		{[]int{0, 2}, []string{"a: 1", `"a": 1`, "b:", `"b c":`, "null: 1"}, 4},
		{[]int{0, 2, 4, 6}, []string{"a:", "- 1"}, 5},
	} {
		for _, s := range allLines(r.blanks, r.lines, r.most) {
			outlineHeld(t, s)
		}
	}
}
