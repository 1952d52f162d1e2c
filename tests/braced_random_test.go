package tests

import (
	"math/rand"
	"strconv"
	"strings"
	"testing"

	"loop.example/g00465/impl"
)

// anyTree is a tree that is TreeOk, of few nodes, by a source that is the same each time.
func anyTree(r *rand.Rand, deep int) node {
	kind := r.Intn(8)
	if deep == 1 {
		kind = r.Intn(4)
	}
	switch kind {
	case 0:
		return node{}
	case 1:
		return flagNode(r.Intn(2))
	case 2:
		return intNode([]int{0, 1, -1, 10, r.Intn(1000), -r.Intn(impl.MaxInt), impl.MaxInt, -impl.MaxInt}[r.Intn(8)])
	case 3:
		return textNode(anyText(r))
	case 4, 5:
		t := listNode()
		for range r.Intn(4) {
			t.Kids = append(t.Kids, anyTree(r, deep-1))
		}
		return t
	}
	model := map[string]node{}
	for range r.Intn(4) {
		model[anyText(r)] = anyTree(r, deep-1)
	}
	return mapOf(model)
}

func anyText(r *rand.Rand) string {
	out := make([]byte, r.Intn(6))
	for i := range out {
		out[i] = byte(32 + r.Intn(95))
		if r.Intn(3) == 0 {
			out[i] = "\"\\/ :,{}[]"[r.Intn(10)]
		}
	}
	return string(out)
}

// loosely writes a tree by the test's own means: with blanks about every part, Keys in any order, and `/` escaped or not.
func loosely(r *rand.Rand, n node) string {
	part := func(s string) string { return anyBlanks(r) + s + anyBlanks(r) }
	switch n.Kind {
	case impl.NdNull:
		return part("null")
	case impl.NdFlag:
		return part(strconv.FormatBool(n.N == 1))
	case impl.NdInt:
		if n.N == 0 && r.Intn(2) == 0 {
			return part("-0")
		}
		return part(strconv.Itoa(n.N))
	case impl.NdText:
		return part(looseText(r, n.S))
	case impl.NdList:
		var parts []string
		for _, kid := range n.Kids {
			parts = append(parts, loosely(r, kid))
		}
		return part("[") + strings.Join(parts, part(",")) + part("]")
	}
	var parts []string
	for i := range n.Keys {
		parts = append(parts, part(looseText(r, n.Keys[i]))+part(":")+loosely(r, n.Kids[i]))
	}
	r.Shuffle(len(parts), func(i, j int) { parts[i], parts[j] = parts[j], parts[i] })
	return part("{") + strings.Join(parts, part(",")) + part("}")
}

func anyBlanks(r *rand.Rand) string {
	out := make([]byte, r.Intn(3)*r.Intn(2))
	for i := range out {
		out[i] = blankBytes[r.Intn(len(blankBytes))]
	}
	return string(out)
}

func looseText(r *rand.Rand, s string) string {
	out := `"`
	for _, c := range strings.Split(s, "") {
		if c == `"` || c == `\` || c == `/` && r.Intn(2) == 0 {
			out += `\`
		}
		out += c
	}
	return out + `"`
}

func TestLooselyWrittenIsReadAsItWas(t *testing.T) {
	r := rand.New(rand.NewSource(4))
	for range 20000 {
		tree := anyTree(r, 1+r.Intn(impl.MaxDeep))
		if s := loosely(r, tree); len(s) <= impl.MaxBytes && impl.TreeOk(tree) {
			wantRead(t, s, tree)
			wantRead(t, impl.Braced(tree), tree)
		}
	}
}

// Texts that are nearly right: one byte is taken away, put in, or another one, or a piece stands twice.
func TestUnbracedOfSpoiledTexts(t *testing.T) {
	r := rand.New(rand.NewSource(5))
	const bytes = "[]{}:,\"\\/-0123456789nulltruefalse \t\n\r\x00\x1f\x7f\xff.e+"
	for range 60000 {
		s := loosely(r, anyTree(r, 1+r.Intn(5)))
		at := r.Intn(len(s))
		to := at + r.Intn(min(len(s)-at, 12)+1)
		c := bytes[r.Intn(len(bytes)):][:1]
		switch r.Intn(5) {
		case 0:
			s = s[:at] + s[at+1:]
		case 1:
			s = s[:at] + c + s[at:]
		case 2:
			s = s[:at] + c + s[at+1:]
		case 3:
			s = s[:to] + s[at:]
		case 4:
			s = s[:at] + s[to:]
		}
		held(t, s)
	}
}
