package tests

import (
	"fmt"
	"strings"
	"testing"

	"loop.example/g00465/impl"
)

func TestOutlineMaxBytes(t *testing.T) {
	for _, s := range []string{"7", "web", "a: 1", "- 1\n- 2", "a:\n  b:\n    - 1", "{}"} {
		want, _ := impl.Outline(s)
		room := impl.MaxBytes - len(s)
		for _, fill := range []string{"\n" + strings.Repeat(" ", room-1), "\n" + strings.Repeat("#", room-1), strings.Repeat("\n", room), "\n" + strings.Repeat(" #\n", room)[:room-1]} {
			wantOutline(t, s+fill, want)
			wantLine(t, s+fill+" ", 0)
			wantLine(t, s+fill+"\n", 0)
			wantLine(t, "\n"+s+fill, 0)
		}
		wantOutline(t, strings.Repeat("#", room-1)+"\n"+s, want)
		wantLine(t, strings.Repeat("#", room)+"\n"+s, 0)
		wantLine(t, strings.Repeat("\n", room)+s+"\n", 0)
	}
	long := strings.Repeat("x", impl.MaxText)
	tree := listNode()
	for range 14 {
		tree.Kids = append(tree.Kids, textNode(long))
	}
	room := impl.MaxBytes - len(impl.Indented(tree)) - len("- \"\"\n")
	fill := " " + strings.Repeat("y", room-1)
	tree.Kids = append(tree.Kids, textNode(fill))
	full := impl.Indented(tree)
	if len(full) != impl.MaxBytes {
		t.Fatalf("a text of %d bytes was made", len(full))
	}
	wantOutline(t, full, tree)
	wantLine(t, full+"\n", 0)
	tree.Kids[14] = textNode(fill + "y")
	wantLine(t, impl.Indented(tree), 0)
	wantOutline(t, strings.TrimSuffix(impl.Indented(tree), "\n"), tree)
}

// A value is what Unbraced tells, so one that is too great by itself does not fit; a Key has no such bound but that of the tree.
func TestOutlineMaxText(t *testing.T) {
	for _, r := range []struct{ written, meant string }{{"x", "x"}, {" ", " "}, {`\"`, `"`}, {`\\`, `\`}, {`\/`, `/`}} {
		for _, n := range []int{impl.MaxText - 1, impl.MaxText} {
			s, want := `"`+strings.Repeat(r.written, n)+`"`, strings.Repeat(r.meant, n)
			wantOutline(t, s, textNode(want))
			wantOutline(t, "- "+s, listNode(textNode(want)))
			wantOutline(t, s+": 1", mapNode([]string{want}, intNode(1)))
			wantOutline(t, "a:\n  "+s+":\n    - "+s, mapNode([]string{"a"}, mapNode([]string{want}, listNode(textNode(want)))))
		}
		s := `"` + strings.Repeat(r.written, impl.MaxText+1) + `"`
		wantLine(t, s, 0)
		wantLine(t, "- 1\n- "+s, 1)
		wantLine(t, "a: 1\nb:\n  c: "+s, 2)
		wantLine(t, "a: 1\nb: ["+s+"]", 1)
		wantLine(t, s+": 1", 0)
		wantLine(t, "a: 1\n"+s+": 1", 0)
		wantLine(t, "a: 1\nb:\n  "+s+": 1", 0)
		wantLine(t, "a: 1\n"+s+": 1\n"+s+": 2", 2)
		wantLine(t, "a: 1\n"+s+":", 2)
		wantLine(t, "a: 1\nb: {"+s+":1}", 1)
	}
	for n, want := range map[int]int{60: -1, 61: 1, impl.MaxText: 1, impl.MaxText + 1: 1} {
		for _, s := range []string{"a: 1\n" + strings.Repeat("k", n) + ": 1", "- 1\n- " + strings.Repeat("v", n)} {
			if _, line := impl.Outline(s); line != want {
				t.Errorf("Outline with %d plain bytes = %d, want %d", n, line, want)
			}
		}
	}
}

// lineChain is a chain of so many lists or maps in lines, with a value in the last one.
func lineChain(deep int, value string, inMaps bool) string {
	head := "-"
	if inMaps {
		head = "k:"
	}
	lines := []string{}
	for i := range deep {
		lines = append(lines, strings.Repeat("  ", i)+head)
	}
	lines[deep-1] += " " + value
	return text(lines...)
}

func TestOutlineMaxDeep(t *testing.T) {
	for _, leaf := range []string{"1", "web", "[]", "{}"} {
		for _, inMaps := range []bool{false, true} {
			want, _ := impl.Outline(leaf)
			for deep := 2; deep <= impl.MaxDeep; deep++ {
				wantOutline(t, lineChain(deep-1, leaf, inMaps), chain(deep, want, inMaps))
			}
			for _, deep := range []int{impl.MaxDeep + 1, impl.MaxDeep + 2, 30} {
				s := lineChain(deep-1, leaf, inMaps)
				wantLine(t, s, 0)
				wantLine(t, s+" x\n", deep-1)
				wantLine(t, s+"x y\n", deep-1)
				wantLine(t, strings.TrimSuffix(s, " "+leaf+"\n"), deep-1)
			}
		}
	}
	for lines := 1; lines < impl.MaxDeep; lines++ {
		room := impl.MaxDeep - 1 - lines
		open, shut := strings.Repeat("[", room), strings.Repeat("]", room)
		wantOutline(t, lineChain(lines, open+"1"+shut, false), chain(impl.MaxDeep, intNode(1), false))
		wantLine(t, lineChain(lines, open+"[1]"+shut, false), 0)
		wantLine(t, lineChain(lines, open+"[]"+shut, false)+"- 01", lines)
	}
	// Braces that are too deep by themselves are no value.
	deep, shut := strings.Repeat("[", impl.MaxDeep), strings.Repeat("]", impl.MaxDeep)
	wantLine(t, "a: 1\nb: "+deep+shut, 0)
	wantLine(t, "a: 1\nb: "+deep+"1"+shut, 1)
}

func TestOutlineMaxNodes(t *testing.T) {
	items := func(n int, in string) string { return strings.Repeat(in+"- null\n", n) }
	keys := func(n int, in string) string {
		out := ""
		for i := n - 1; i >= 0; i-- {
			out += fmt.Sprintf("%s\"%03d\": %d\n", in, i, i)
		}
		return out
	}
	for _, n := range []int{impl.MaxNodes - 2, impl.MaxNodes - 1} {
		wantOutline(t, items(n, ""), manyKids(n))
		wantOutline(t, keys(n, ""), manyKeys(n))
	}
	wantOutline(t, "-\n"+items(99, "  ")+"-\n"+items(98, "  "), listNode(manyKids(99), manyKids(98)))
	wantOutline(t, "b:\n"+items(99, "  ")+"a:\n"+keys(98, "  "), mapNode([]string{"a", "b"}, manyKeys(98), manyKids(99)))
	hundred := "[" + strings.Repeat("1,", 97) + "1]"
	wantOutline(t, "- "+hundred+"\n- "+hundred+"\n- 1\n", listNode(append([]node{}, valueNode(t, hundred), valueNode(t, hundred), intNode(1))...))
	for _, s := range []string{
		items(impl.MaxNodes, ""), keys(impl.MaxNodes, ""), items(impl.MaxNodes+1, ""), items(700, ""),
		"-\n" + items(99, "  ") + "-\n" + items(99, "  "), "-\n" + items(98, "  ") + "-\n" + items(99, "  ") + "- 1\n",
		"b:\n" + items(99, "  ") + "a:\n" + keys(99, "  "),
		"- " + hundred + "\n- " + hundred + "\n- 1\n- 1\n", "- " + hundred + "\n- " + hundred + "\n- [1]\n",
		"-\n" + items(300, "  ") + "-\n" + items(2, "  "),
	} {
		wantLine(t, s, 0)
		wantLine(t, s+"x y", len(cutLines(s)))
		wantLine(t, s+" - 1", len(cutLines(s)))
		wantLine(t, "# a\n"+s+"\n    - 1", len(cutLines(s))+2)
	}
	// Braces that are too many by themselves are no value.
	wantLine(t, "a: 1\nb: ["+strings.Repeat("1,", impl.MaxNodes-2)+"1]", 0)
	wantLine(t, "a: 1\nb: ["+strings.Repeat("1,", impl.MaxNodes-1)+"1]", 1)
}

func valueNode(t *testing.T, s string) node {
	t.Helper()
	n, place := impl.Unbraced(s)
	if place != -1 {
		t.Fatalf("Unbraced(%q) answers the place %d", s, place)
	}
	return n
}

func TestOutlineInts(t *testing.T) {
	wantOutline(t, "- 1000000000000\n- -1000000000000", listNode(intNode(impl.MaxInt), intNode(-impl.MaxInt)))
	for _, s := range []string{"1000000000001", "-1000000000001", "9223372036854775808", "18446744073709551617", strings.Repeat("9", 5000), "[1000000000001]", `{"a":-1000000000001}`} {
		wantLine(t, s, 0)
		wantLine(t, "- 1\n- "+s, 1)
		wantLine(t, "a: 1\nb:\n  - "+s, 2)
	}
}

// Of several reasons that named first counts, over the whole text: a line that does not fit, or is missing, then a limit.
func TestOutlineFirstReasonCounts(t *testing.T) {
	note, notes := "#"+strings.Repeat("x", impl.MaxBytes)+"\n", strings.Repeat("#\n", impl.MaxBytes)
	deep := lineChain(impl.MaxDeep, "1", true)
	key := `"` + strings.Repeat("k", impl.MaxText+1) + `": 1` + "\n"
	rows := []struct {
		s    string
		want int
	}{
		{note, 1}, {note + note, 2}, {notes, impl.MaxBytes},
		{note + "a: 1\n", 0}, {notes + "a: 1\n", 0}, {"a: 1\n" + note, 0},
		{note + "a: 1\na: 2\n", 2}, {notes + "a: 1\na: 2\n", impl.MaxBytes + 1}, {"a: 1\na: 2\n" + notes, 1},
		{note + "a:\n", 2}, {"a:\n" + notes, impl.MaxBytes + 1}, {"a:\n" + note + "b: 1\n", 2},
		{note + "a:1\n", 1}, {"a: 1\n" + note + " b: 1\n", 2}, {"a: 1\n" + note + "b: x y\n", 2}, {"web\n" + note + "web\n", 2},
		{deep, 0}, {deep + "k: 1\n", impl.MaxDeep}, {deep + "l:\n", impl.MaxDeep + 1}, {deep + "l: 1\n" + note, 0}, {deep + note + "l: [\n", impl.MaxDeep + 1},
		{key, 0}, {key + "a: 1\nb:\n", 3}, {key + "a: 1\n- 1\n", 2}, {key + key, 1}, {key + note, 0}, {note + key + key, 2},
		{"a: 1\nb: [" + strings.Repeat(" ", impl.MaxBytes) + "]", 1}, {"a: 1\nb: " + strings.Repeat(" ", impl.MaxBytes) + "1", 1}, {"a: 1\nb: 1000000000001\nb: 1\n", 1},
		{strings.Repeat(" ", impl.MaxBytes+1), 1}, {strings.Repeat("x", impl.MaxBytes+1), 0}, {"1\n" + strings.Repeat("x", impl.MaxBytes+1), 1}, {"1\n" + strings.Repeat(" ", impl.MaxBytes+1), 0},
	}
	for _, r := range rows {
		wantLine(t, r.s, r.want)
	}
}

// However long or deep a text is, an answer comes, and it comes soon.
func TestOutlineOfGreatTexts(t *testing.T) {
	const many = 200000
	var keys strings.Builder
	for i := range many {
		fmt.Fprintf(&keys, "k%06d: 1\n", many-1-i)
	}
	chained := lineChain(2000, "1", true)
	rows := []struct {
		s    string
		want int
	}{
		{strings.Repeat("\n", many), many}, {strings.Repeat("  \n", many) + "1", 0}, {strings.Repeat(" ", many), 1}, {strings.Repeat("#", many), 1},
		{strings.Repeat("- 1\n", many), 0}, {strings.Repeat("- 1\n", many) + "-", many + 1}, {strings.Repeat("-\n  - 1\n", many), 0}, {strings.Repeat("-\n  - 1\n", many) + "  -1", 2 * many}, {strings.Repeat("-\n", many), 1}, {strings.Repeat("-", many), 0}, {"- " + strings.Repeat("-", many), 0},
		{strings.Repeat("- {\"a\":[1,2]}\n", many), 0}, {keys.String(), 0}, {keys.String() + "k000007: 1", many}, {keys.String() + "k:", many + 1}, {"a:\n  " + strings.ReplaceAll(keys.String(), "\n", "\n  "), 0},
		{chained, 0}, {chained + "k: 1", 2000}, {chained + "l: 1", 0}, {strings.TrimSuffix(chained, " 1\n"), 2000}, {chained + strings.Repeat(" ", 3998) + "l:", 2001}, {chained + strings.Repeat(" ", 4000) + "l: 1", 2000}, {lineChain(2000, "x y", false), 1999},
		{"a: 1\nb: " + strings.Repeat("[", many), 1}, {"a: 1\nb: " + strings.Repeat("[", many) + strings.Repeat("]", many), 1}, {"a: 1\n\"" + strings.Repeat("k", many) + "\": 1", 0}, {"a: 1\n\"" + strings.Repeat("k", many) + ": 1", 1}, {"a: 1\n" + strings.Repeat("k", many) + ": 1", 1}, {"a: 1\n" + strings.Repeat(":", many), 1},
	}
	for _, r := range rows {
		wantLine(t, r.s, r.want)
	}
}

func TestOutlineSharesNothing(t *testing.T) {
	texts := []string{
		"null", "1", "web", "[]", "{}", "[[],[]]", "- []\n- []\n- {}\n", "- [1,2]\n- [1,2]\n-\n  - [1,2]\n  - 1\n  - 2\n",
		"b:\n  - 1\n  - 2\n  - 3\na:\n  - 1\n  - 2\n  - 3\nc:\n  b: [1]\n  a: [1]\n", "-\n  a: 1\n  b: 2\n  c: 3\n-\n  a: 1\n  b: 2\n  c: 3\n- {\"a\":1,\"b\":2,\"c\":3}\n",
		impl.Indented(manyKeys(impl.MaxNodes - 1)), strings.Repeat("-\n  - 1\n  -\n    - 2\n    - 3\n", 30), "- " + manyWritten(60) + "\n- " + manyWritten(60),
	}
	readsShareNothing(t, "Outline", impl.Outline, texts)
}
