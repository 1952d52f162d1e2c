package tests

import (
	"math/rand"
	"strings"
	"testing"

	"loop.example/g00465/impl"
)

func TestFormsHaveNumbers(t *testing.T) {
	if impl.FmBraced != 0 || impl.FmIndented != 1 {
		t.Errorf("the forms are %d and %d", impl.FmBraced, impl.FmIndented)
	}
}

func TestSaidAndHeard(t *testing.T) {
	one, two := intNode(1), intNode(2)
	rows := []struct {
		tree     node
		braced   string
		indented string
	}{
		{node{}, `null`, text(`null`)},
		{flagNode(0), `false`, text(`false`)},
		{flagNode(1), `true`, text(`true`)},
		{intNode(3), `3`, text(`3`)},
		{intNode(-impl.MaxInt), `-1000000000000`, text(`-1000000000000`)},
		{textNode(""), `""`, text(`""`)},
		{textNode("web"), `"web"`, text(`web`)},
		{textNode("true"), `"true"`, text(`"true"`)},
		{textNode("a b"), `"a b"`, text(`"a b"`)},
		{textNode(`"\/`), `"\"\\/"`, text(`"\"\\/"`)},
		{textNode("-"), `"-"`, text(`"-"`)},
		{textNode("# a"), `"# a"`, text(`"# a"`)},
		{listNode(), `[]`, text(`[]`)},
		{mapNode(nil), `{}`, text(`{}`)},
		{listNode(one, listNode(two), listNode()), `[1,[2],[]]`, text(`- 1`, `-`, `  - 2`, `- []`)},
		{mapNode([]string{"a", "b"}, one, mapNode([]string{"c d"}, two)), `{"a":1,"b":{"c d":2}}`, text(`a: 1`, `b:`, `  "c d": 2`)},
		{mapNode([]string{"", "null"}, textNode("x"), textNode("null")), `{"":"x","null":"null"}`, text(`"": x`, `"null": "null"`)},
		{listNode(mapNode([]string{"a", "b"}, node{}, textNode(":"))), `[{"a":null,"b":":"}]`, text(`-`, `  a: null`, `  b: ":"`)},
	}
	for _, r := range rows {
		for form, want := range []string{r.braced, r.indented} {
			wantSaid(t, form, r.tree, want)
			wantHeard(t, form, want, r.tree)
		}
		// A braced text is an indented one, too.
		wantHeard(t, impl.FmIndented, r.braced, r.tree)
	}
}

func TestGoodTreesAreHeardAsTheyWere(t *testing.T) {
	for _, n := range goodTrees() {
		for form := range mostForms {
			wantSaid(t, form, n, saidOf(form, n))
			wantHeard(t, form, impl.Said(form, n), n)
		}
	}
}

// What is said is heard as it was: many trees, in each form.
func TestManyTreesAreHeardAsTheyWere(t *testing.T) {
	r := rand.New(rand.NewSource(120))
	said := map[string]int{}
	for range 30000 {
		tree := anyTree(r, 1+r.Intn(impl.MaxDeep))
		if r.Intn(2) == 0 {
			tree = plainly(r, tree)
		}
		if !impl.TreeOk(tree) {
			t.Fatalf("%s was made", brief(tree))
		}
		for form := range mostForms {
			s := saidOf(form, tree)
			wantSaid(t, form, tree, s)
			if len(s) > impl.MaxBytes {
				wantUnheard(t, form, s)
				continue
			}
			wantHeard(t, form, s, tree)
			said[s]++
		}
	}
	if len(said) < 20000 {
		t.Errorf("only %d texts were said", len(said))
	}
}

// From form to form, however often, it is the same tree.
func TestTreesThroughBothForms(t *testing.T) {
	r := rand.New(rand.NewSource(121))
	for range 3000 {
		tree := plainly(r, anyTree(r, 1+r.Intn(5)))
		now := snapshot(tree)
		for range 6 {
			form := r.Intn(mostForms)
			s := impl.Said(form, now)
			wantSaid(t, form, tree, s)
			var ok bool
			if now, ok = impl.Heard(form, s); !ok {
				t.Fatalf("Heard(%d, %.300q) is false", form, s)
			}
			wantTree(t, "heard", now, tree)
		}
	}
}

// Of a form that is none nothing is said, and nothing is heard in it, whatever the other form or shape.
func TestFormsThatAreNone(t *testing.T) {
	texts := []string{"", "1", "null", "1\n", "web", "web\n", "[]", "{}", "a: 1\n", "{", "text"}
	for _, o := range []order{webOrder(), fullOrder(), leastOrder()} {
		for shape, tree := range shapeModels(o) {
			for form := range mostForms {
				texts = append(texts, saidOf(form, tree))
				wantOrderHeard(t, form, texts[len(texts)-1], o, shape)
			}
		}
	}
	for _, form := range noForms() {
		for _, n := range append(goodTrees(), badTrees()...) {
			wantSaid(t, form, n, "")
		}
		for _, s := range texts {
			wantUnheard(t, form, s)
		}
		for _, o := range []order{{}, webOrder(), fullOrder(), leastOrder()} {
			for _, shape := range append(noShapes(), 0, 1, 2) {
				wantSaidOrder(t, form, shape, o, "")
			}
		}
	}
}

// Of what is no tree nothing is said in any form, wherever in a tree it stands.
func TestSaidOfNoTree(t *testing.T) {
	for form := -1; form <= mostForms; form++ {
		for _, n := range badTrees() {
			for _, tree := range []node{n, listNode(n), listNode(node{}, n), mapNode([]string{"a", "b"}, node{}, n), mapNode([]string{"a"}, listNode(n))} {
				wantSaid(t, form, tree, "")
			}
		}
		for _, tree := range []node{
			{Kind: -1}, {Kind: 6}, {N: 1}, {S: "x"}, {Kind: impl.NdFlag, N: 2}, intNode(impl.MaxInt + 1), textNode("a\n"), textNode("\u00e9"),
			textNode(strings.Repeat("x", impl.MaxText+1)), mapNode([]string{"b", "a"}, node{}, node{}), mapNode([]string{"a", "a"}, node{}, node{}),
			mapNode([]string{"a"}), mapNode(nil, node{}), manyKids(impl.MaxNodes), manyKeys(impl.MaxNodes), chain(impl.MaxDeep+1, node{}, false), chain(impl.MaxDeep+1, node{}, true),
			chain(100000, node{}, false),
		} {
			wantSaid(t, form, tree, "")
		}
		kids := make([]node, 1)
		kids[0] = node{Kind: impl.NdMap, Keys: []string{"kind"}, Kids: kids}
		wantSaid(t, form, kids[0], "")
		kids[0] = node{Kind: impl.NdList, Kids: kids}
		wantSaid(t, form, kids[0], "")
	}
}

// What is no text of one form nor of the other; what Unbraced and Outline tell of it is a place or a line, and it is zero and false in both.
func TestHeardOfNoText(t *testing.T) {
	nulls := func(n int) string { return "[" + strings.TrimSuffix(strings.Repeat("null,", n), ",") + "]" }
	for _, s := range []string{
		"", " ", "\n", "\t", "\r", "\n\n", "#", "# 1", "{", "}", "[", "]", "[1", "[1,", "[1,]", "{1}", `{"a"}`, `{"a":}`, `{"a":1`, `{"a":1,}`, `{a:1}`, ",", ":",
		`"`, `"a`, `a"`, `'a'`, `"\n"`, "\"a\nb\"", "\"\x7f\"", "\"\u00e9\"", "\x00", "\xff", "1\x00", "01", "-01", "+1", "1.5", "1e3", "--1", "- -", "1 2", "[1 2]", "nul", "nullx 1", "true false", "a b", "_a", ".a", "1a",
		`{"a":1,"a":2}`, `{"/":1,"\/":2}`, `[{"a":1,"b":2,"a":3}]`, "1000000000001", "-1000000000001", `"` + strings.Repeat("x", impl.MaxText+1) + `"`,
		strings.Repeat("[", impl.MaxDeep) + strings.Repeat("]", impl.MaxDeep) + "]", strings.Repeat("[", impl.MaxDeep+1) + strings.Repeat("]", impl.MaxDeep+1),
		nulls(impl.MaxNodes), nulls(300), manyWritten(impl.MaxNodes), "1" + strings.Repeat(" ", impl.MaxBytes), strings.Repeat(" ", impl.MaxBytes) + "1", strings.Repeat("[", 100000), strings.Repeat("-\n", 100000),
	} {
		// What is a word, as `nul`, is a text in lines.
		if impl.PlainOk(s) {
			wantUnheard(t, impl.FmBraced, s)
			wantHeard(t, impl.FmIndented, s, textNode(s))
			continue
		}
		for form := -1; form <= mostForms; form++ {
			wantUnheard(t, form, s)
		}
	}
}

// Each form has texts of its own, beside those that are of both; the same text is no other tree in the other one.
func TestHeardInOneFormOrBoth(t *testing.T) {
	one, two := intNode(1), intNode(2)
	ab := mapNode([]string{"a", "b"}, one, two)
	braced := map[string]node{
		" 1": one, " \n 1": one, "\n []": listNode(), "[1,\n2]": listNode(one, two), "[\n]": listNode(), "{\n}": mapNode(nil),
		"{\"a\":1,\n\"b\":2}": ab, "{\n  \"a\": 1,\n  \"b\": 2\n}\n": ab,
	}
	// Lines of blanks are none, wherever they stand.
	both := map[string]node{
		"1": one, "1\n": one, "\n1": one, "  \n1": one, "\t1": one, "1 ": one, "1\r\n": one, "1\n  \n": one, "-0": intNode(0), "null\n": {}, "\n\"a\" ": textNode("a"), `"\/"`: textNode("/"),
		`{"b":2,"a":1}`: ab, `{ "a" : 1 , "b" : 2 }`: ab, "[1,\t2]\n": listNode(one, two), "\"a\"\n\n ": textNode("a"),
	}
	indented := map[string]node{
		"web": textNode("web"), "web\n": textNode("web"), "nulls": textNode("nulls"), "- 1": listNode(one), "- 1\n- 2\n": listNode(one, two), "-\n  - 1": listNode(listNode(one)), "# x\n1": one, "1\n#": one,
		"a: 1": mapNode([]string{"a"}, one), `"a": 1`: mapNode([]string{"a"}, one), "a: 1\nb: 2\n": ab, "b: 2\na: 1\n": ab, "# none\na: 1\n\n  # none\nb: 2": ab,
		`a: {"b":[]}`: mapNode([]string{"a"}, mapNode([]string{"b"}, listNode())),
	}
	for s, want := range both {
		wantHeard(t, impl.FmBraced, s, want)
		wantHeard(t, impl.FmIndented, s, want)
	}
	for s, want := range braced {
		wantHeard(t, impl.FmBraced, s, want)
		wantUnheard(t, impl.FmIndented, s)
	}
	for s, want := range indented {
		wantUnheard(t, impl.FmBraced, s)
		wantHeard(t, impl.FmIndented, s, want)
	}
	for _, s := range []string{"  - 1", " web", "1\n2", "- 1\na: 2", "a: 1\na: 2"} {
		wantUnheard(t, impl.FmBraced, s)
		wantUnheard(t, impl.FmIndented, s)
	}
}

// What was said in the one form, heard in the other: braces are heard in lines as they were, lines in braces only where they are one value.
func TestTextsOfTheOtherForm(t *testing.T) {
	r := rand.New(rand.NewSource(122))
	heard := map[bool]int{}
	for i := range 10000 {
		tree := plainly(r, anyTree(r, 1+r.Intn(4)))
		if i < len(goodTrees()) {
			tree = goodTrees()[i]
		}
		wantHeard(t, impl.FmIndented, saidOf(impl.FmBraced, tree), tree)
		s := saidOf(impl.FmIndented, tree)
		lines := len(tree.Kids) > 0 || tree.Kind == impl.NdText && plainText.MatchString(tree.S) && !isWord(tree.S)
		heard[lines]++
		if lines {
			wantUnheard(t, impl.FmBraced, s)
		} else {
			wantHeard(t, impl.FmBraced, s, tree)
		}
	}
	if heard[true] < 2000 || heard[false] < 2000 {
		t.Error(heard)
	}
}

// As great as a tree or a text may be, and one more.
func TestTextLimits(t *testing.T) {
	for _, n := range []node{
		manyKids(impl.MaxNodes - 1), manyKeys(impl.MaxNodes - 1), chain(impl.MaxDeep, intNode(1), false), chain(impl.MaxDeep, mapNode(nil), true),
		textNode(strings.Repeat("x", impl.MaxText)), textNode(strings.Repeat(`"`, impl.MaxText)), mapNode([]string{strings.Repeat(`\`, impl.MaxText)}, intNode(impl.MaxInt)),
	} {
		for form := range mostForms {
			wantSaid(t, form, n, saidOf(form, n))
			wantHeard(t, form, saidOf(form, n), n)
		}
	}
	for form := range mostForms {
		tree := listNode()
		for range 14 {
			tree.Kids = append(tree.Kids, textNode(strings.Repeat(" ", impl.MaxText)))
		}
		tree.Kids = append(tree.Kids, textNode(" "))
		fill := impl.MaxBytes - len(saidOf(form, tree))
		tree.Kids[14].S += strings.Repeat("y", fill)
		s := impl.Said(form, tree)
		if len(s) != impl.MaxBytes {
			t.Fatalf("a text of %d bytes was made", len(s))
		}
		wantHeard(t, form, s, tree)
		wantUnheard(t, form, s+"\n")
		// A text that is said is not cut, however long it is; it is heard no more.
		tree.Kids[14].S += "y"
		wantSaid(t, form, tree, saidOf(form, tree))
		wantUnheard(t, form, impl.Said(form, tree))
	}
}

func TestHeardOfAllShortTexts(t *testing.T) {
	for _, bytes := range []string{"[]1, \n", "{\":a}", "a: -\n"} {
		for _, s := range allTexts(bytes, 6) {
			for form := range mostForms {
				heardHeld(t, form, s)
			}
		}
	}
}

// Trees written with more than is said, or spoilt in a byte or a line, are heard as what they are, or not.
func TestHeardOfSpoiltTexts(t *testing.T) {
	r := rand.New(rand.NewSource(123))
	heard := map[bool]int{}
	for range 20000 {
		tree := plainly(r, anyTree(r, 1+r.Intn(5)))
		lines := []string{loosely(r, tree)}
		if r.Intn(3) > 0 {
			lines = inLines(r, tree)
		}
		for range r.Intn(3) {
			lines = spoiled(r, lines)
		}
		for form := range mostForms {
			s := strings.Join(lines, "\n")
			heardHeld(t, form, s)
			_, ok := heardOf(t, form, s)
			heard[ok]++
		}
	}
	if heard[true] < 5000 || heard[false] < 5000 {
		t.Error(heard)
	}
}
