package tests

import (
	"fmt"
	"math"
	"strconv"
	"strings"
	"testing"

	"loop.example/g00465/impl"
)

const mostForms = 2

var formNames = [mostForms]string{"braced", "indented"}

// noForms are numbers that are no form's; as bytes, or as 32 bits, some of them would be one's.
func noForms() []int {
	return []int{math.MinInt, math.MinInt + 1, -1 << 32, -257, -256, -255, -2, -1, 2, 3, 4, 10, 48, 49, 255, 256, 257, 1 << 32, 1<<32 + 1, math.MaxInt - 1, math.MaxInt}
}

func noShapes() []int {
	return []int{math.MinInt, -1 << 32, -256, -3, -2, -1, 3, 4, 5, 256, 257, 258, 1 << 32, 1<<32 + 2, math.MaxInt}
}

// inBraces writes a tree that is TreeOk by the test's own means.
func inBraces(n node) string {
	quoted := func(s string) string { return `"` + strings.NewReplacer(`"`, `\"`, `\`, `\\`).Replace(s) + `"` }
	var parts []string
	for i, kid := range n.Kids {
		part := inBraces(kid)
		if n.Kind == impl.NdMap {
			part = quoted(n.Keys[i]) + ":" + part
		}
		parts = append(parts, part)
	}
	switch n.Kind {
	case impl.NdFlag:
		return strconv.FormatBool(n.N == 1)
	case impl.NdInt:
		return strconv.Itoa(n.N)
	case impl.NdText:
		return quoted(n.S)
	case impl.NdList:
		return "[" + strings.Join(parts, ",") + "]"
	case impl.NdMap:
		return "{" + strings.Join(parts, ",") + "}"
	}
	return "null"
}

// asItIs is a text alone, in an indented text.
func asItIs(s string) string {
	if plainText.MatchString(s) && !isWord(s) {
		return s
	}
	return inBraces(textNode(s))
}

// linesFor writes the lines of a tree that is TreeOk by the test's own means.
func linesFor(n node) []string {
	if n.Kind == impl.NdText {
		return []string{asItIs(n.S)}
	}
	if len(n.Kids) == 0 {
		return []string{inBraces(n)}
	}
	var out []string
	for i, kid := range n.Kids {
		head := "-"
		if n.Kind == impl.NdMap {
			head = asItIs(n.Keys[i]) + ":"
		}
		if len(kid.Kids) == 0 {
			out = append(out, head+" "+linesFor(kid)[0])
			continue
		}
		out = append(out, head)
		for _, line := range linesFor(kid) {
			out = append(out, "  "+line)
		}
	}
	return out
}

// saidOf is what is to be said in a form of a tree that is TreeOk.
func saidOf(form int, n node) string {
	if form == impl.FmBraced {
		return inBraces(n)
	}
	return text(linesFor(n)...)
}

// heardOf is what is to be heard of any text, by the test's own walks.
func heardOf(t *testing.T, form int, s string) (node, bool) {
	t.Helper()
	if form == impl.FmIndented {
		n, _, ok := newLineWalk(s).whole(t)
		if !ok || len(s) > impl.MaxBytes || !impl.TreeOk(n) {
			return node{}, false
		}
		return n, true
	}
	if _, bad := braceFault(s); bad {
		return node{}, false
	}
	n, alike := jsonTree(t, s)
	if alike >= 0 || len(s) > impl.MaxBytes || !impl.TreeOk(n) {
		return node{}, false
	}
	return n, true
}

// orderHeardOf is what HeardOrder is to tell of any text, by the test's own readers of texts and of shapes.
func orderHeardOf(t *testing.T, form int, s string) (order, int, string) {
	t.Helper()
	n, ok := heardOf(t, form, s)
	if !ok {
		return order{}, 0, "text"
	}
	if n.Kind != impl.NdMap {
		return order{}, 0, "."
	}
	kind := model(n)["kind"]
	for shape, r := range []struct {
		name  string
		ways  func(node) []string
		value func(node) order
	}{{"full", fullWays, fullValue}, {"middle", midWays, midValue}, {"plain", plainWays, plainValue}} {
		if kind.Kind != impl.NdText || kind.S != r.name {
			continue
		}
		ways := r.ways(n)
		switch {
		case len(ways) == 0:
			return r.value(n), shape, ""
		case ways[0] == "":
			// A strange empty Key has no way, but its shape is told.
			return order{}, shape, ""
		}
		return order{}, 0, ways[0]
	}
	return order{}, 0, "kind"
}

func wantSaid(t *testing.T, form int, n node, want string) {
	t.Helper()
	if got := impl.Said(form, n); got != want {
		t.Fatalf("Said(%d, %s) = %.300q, want %.300q", form, brief(n), got, want)
	}
}

func wantHeard(t *testing.T, form int, s string, want node) {
	t.Helper()
	got, ok := impl.Heard(form, s)
	if !ok {
		t.Fatalf("Heard(%d, %.300q) = %s, false, want %s, true", form, s, brief(got), brief(want))
	}
	wantTree(t, fmt.Sprintf("Heard(%d, %.300q)", form, s), got, want)
}

// wantUnheard asks for zero and false, and for what HeardOrder tells then.
func wantUnheard(t *testing.T, form int, s string) {
	t.Helper()
	if got, ok := impl.Heard(form, s); ok || !alikeTrees(got, node{}) {
		t.Fatalf("Heard(%d, %.300q) = %s, %v, want zero, false", form, s, brief(got), ok)
	}
	wantOrderWay(t, form, s, "text")
}

func wantOrderHeard(t *testing.T, form int, s string, want order, shape int) {
	t.Helper()
	if got, n, way := impl.HeardOrder(form, s); n != shape || way != "" || !impl.OrderSame(got, want) {
		t.Fatalf("HeardOrder(%d, %.600q) = %+v, %d, %.80q, want %+v, %d", form, s, got, n, way, want, shape)
	}
}

func wantOrderWay(t *testing.T, form int, s string, want string) {
	t.Helper()
	if got, n, way := impl.HeardOrder(form, s); n != 0 || way != want || !impl.OrderSame(got, order{}) {
		t.Fatalf("HeardOrder(%d, %.600q) = %+v, %d, %.80q, want zero, 0 and %.80q", form, s, got, n, way, want)
	}
}

// heardHeld is what is heard of a text, held against the test's own readers; and the way that HeardOrder tells.
func heardHeld(t *testing.T, form int, s string) string {
	t.Helper()
	if n, ok := heardOf(t, form, s); ok {
		wantHeard(t, form, s, n)
	} else {
		wantUnheard(t, form, s)
	}
	o, shape, way := orderHeardOf(t, form, s)
	if got, n, told := impl.HeardOrder(form, s); n != shape || told != way || !impl.OrderSame(got, o) {
		t.Fatalf("HeardOrder(%d, %.600q) = %+v, %d, %.80q, want %+v, %d, %.80q", form, s, got, n, told, o, shape, way)
	}
	return way
}
