package tests

import (
	"fmt"
	"strings"
	"testing"

	"loop.example/g00465/impl"
)

func TestUnbracedMaxBytes(t *testing.T) {
	text := strings.Repeat("x", impl.MaxText)
	full := "[" + strings.Repeat(`"`+text+`",`, 14) + `""]`
	fill := strings.Repeat("y", impl.MaxBytes-len(full))
	full = full[:len(full)-2] + fill + `"]`
	tree := listNode()
	for range 14 {
		tree.Kids = append(tree.Kids, textNode(text))
	}
	tree.Kids = append(tree.Kids, textNode(fill))
	if len(full) != impl.MaxBytes {
		t.Fatalf("a text of %d bytes was made", len(full))
	}
	wantRead(t, full, tree)
	wantRead(t, impl.Braced(tree), tree)
	for _, blank := range []string{" ", "\t", "\n", "\r"} {
		wantPlace(t, full+blank, 0)
		wantPlace(t, blank+full, 0)
		for _, s := range []string{"7", "null", `"a"`, "[]", `{"b":1,"a":2}`} {
			want, _ := impl.Unbraced(s)
			room := strings.Repeat(blank, impl.MaxBytes-len(s))
			wantRead(t, room+s, want)
			wantRead(t, s+room, want)
			wantRead(t, room[:100]+s+room[100:], want)
			wantPlace(t, room+blank+s, 0)
			wantPlace(t, s+room+blank, 0)
			wantPlace(t, blank+s+room, 0)
		}
	}
}

func TestUnbracedMaxText(t *testing.T) {
	for _, r := range []struct{ written, meant string }{{"x", "x"}, {" ", " "}, {`\"`, `"`}, {`\\`, `\`}, {`\/`, `/`}} {
		for _, n := range []int{impl.MaxText - 1, impl.MaxText} {
			s, want := strings.Repeat(r.written, n), strings.Repeat(r.meant, n)
			wantRead(t, `"`+s+`"`, textNode(want))
			wantRead(t, `[1,"`+s+`"]`, listNode(intNode(1), textNode(want)))
			wantRead(t, `{"`+s+`":"`+s+`"}`, mapNode([]string{want}, textNode(want)))
		}
		s := strings.Repeat(r.written, impl.MaxText+1)
		wantPlace(t, `"`+s+`"`, 0)
		wantPlace(t, `[1,"`+s+`"]`, 0)
		wantPlace(t, `{"`+s+`":1}`, 0)
		wantPlace(t, `{"a":1,"`+s+`":1}`, 0)
		wantPlace(t, `{"a":"`+s+`"}`, 0)
	}
}

func TestUnbracedMaxDeep(t *testing.T) {
	for _, leaf := range []string{"1", "null", `"x"`, "[]", "{}"} {
		for _, inMaps := range []bool{false, true} {
			open, shut := "[", "]"
			if inMaps {
				open, shut = `{"k":`, "}"
			}
			want, _ := impl.Unbraced(leaf)
			for deep := 1; deep <= impl.MaxDeep; deep++ {
				wantRead(t, strings.Repeat(open, deep-1)+leaf+strings.Repeat(shut, deep-1), chain(deep, want, inMaps))
			}
			for _, deep := range []int{impl.MaxDeep + 1, impl.MaxDeep + 2, 100, 900} {
				s := strings.Repeat(open, deep-1) + leaf + strings.Repeat(shut, deep-1)
				wantPlace(t, s, 0)
				wantPlace(t, "[1,"+s+"]", 0)
			}
		}
	}
	wantPlace(t, "["+strings.Repeat("[", impl.MaxDeep-1)+"1"+strings.Repeat("]", impl.MaxDeep-1)+",2]", 0)
}

// manyWritten is a map of so many Keys, each three digits, the last one first.
func manyWritten(n int) string {
	parts := []string{}
	for i := range n {
		parts = append(parts, fmt.Sprintf(`"%03d":%d`, n-1-i, n-1-i))
	}
	return "{" + strings.Join(parts, ",") + "}"
}

func TestUnbracedMaxNodes(t *testing.T) {
	nulls := func(n int) string { return "[" + strings.TrimSuffix(strings.Repeat("null,", n), ",") + "]" }
	for _, n := range []int{impl.MaxNodes - 2, impl.MaxNodes - 1} {
		wantRead(t, nulls(n), manyKids(n))
		wantRead(t, manyWritten(n), manyKeys(n))
	}
	wantRead(t, "["+nulls(99)+","+nulls(98)+"]", listNode(manyKids(99), manyKids(98)))
	wantRead(t, `{"b":`+nulls(99)+`,"a":`+manyWritten(98)+"}", mapNode([]string{"a", "b"}, manyKeys(98), manyKids(99)))
	for _, s := range []string{
		nulls(impl.MaxNodes), manyWritten(impl.MaxNodes), nulls(impl.MaxNodes + 1), nulls(1000),
		"[" + nulls(99) + "," + nulls(99) + "]", "[" + nulls(98) + "," + nulls(99) + ",1]",
		`{"b":` + nulls(99) + `,"a":` + manyWritten(99) + "}",
		"[" + strings.Repeat("[],", impl.MaxNodes-1) + "[]]", "[" + strings.Repeat("{},", impl.MaxNodes-1) + "{}]",
		nulls(impl.MaxNodes)[:len(nulls(impl.MaxNodes))-1] + ",[" + nulls(3) + "]]",
	} {
		wantPlace(t, s, 0)
		wantPlace(t, s+"x", len(s))
		wantPlace(t, s[:len(s)-1], len(s)-1)
	}
}

// However long or deep a text is, an answer comes, and it comes soon.
func TestUnbracedOfGreatTexts(t *testing.T) {
	const many = 300000
	open, shut := strings.Repeat("[", many), strings.Repeat("]", many)
	maps, ends := strings.Repeat(`{"a":`, many), strings.Repeat("}", many)
	rows := []struct {
		s    string
		want int
	}{
		{open, many},
		{open + shut, 0},
		{open + shut + "]", 2 * many},
		{open + shut[1:], 2*many - 1},
		{open + "}" + shut, many},
		{maps, 5 * many},
		{maps + "1" + ends, 0},
		{maps + "1" + ends[1:] + "]", 6 * many},
		{maps + `1,"a":2` + ends, 5*many + 2},
		{strings.Repeat("[{\"a\":", many), 6 * many},
		{manyWritten(many), 0},
		{strings.TrimSuffix(manyWritten(many), "}") + `,"007":1}`, len(manyWritten(many))},
		{"[" + strings.Repeat("1,", many) + "1]", 0},
		{"[" + strings.Repeat("1,", many) + "]", 2*many + 1},
		{`"` + strings.Repeat("x", many) + `"`, 0},
		{`"` + strings.Repeat("x", many), many + 1},
		{`"` + strings.Repeat(`\"`, many) + `"`, 0},
		{strings.Repeat(" ", many), many},
		{strings.Repeat("0", many), 1},
		{strings.Repeat("-", many), 1},
		{strings.Repeat("\xff", many), 0},
		{strings.Repeat("{", many), 1},
		{strings.Repeat(`"`, many), 2},
		{strings.Repeat("null", many), 4},
	}
	for _, r := range rows {
		wantPlace(t, r.s, r.want)
	}
}

func TestUnbracedSharesNothing(t *testing.T) {
	texts := []string{
		"null", "1", `"a"`, "[]", "{}", "[[],[]]", "[{},{}]", `[[1,2],[1,2],[[1,2]]]`,
		`{"b":[1,2,3],"a":[1,2,3],"c":{"b":[1],"a":[1]}}`, `[{"a":1,"b":2,"c":3},{"a":1,"b":2,"c":3}]`,
		manyWritten(impl.MaxNodes - 1), "[" + strings.Repeat("[1,[2,3]],", 30) + "[]]",
	}
	readsShareNothing(t, "Unbraced", impl.Unbraced, texts)
}
