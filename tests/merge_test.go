package tests

import (
	"fmt"
	"slices"
	"strings"
	"testing"

	"loop.example/g00465/impl"
)

type mergeRow struct {
	base, a, b, want string
	ways             []string
}

// Where there is nothing at the Key, rows of one Key have the empty text.
type keyRow struct {
	base, a, b, want string
	isWay            bool
}

// Each way in which a Key may be in the three, with what is the same and what is not in each pair.
func keyRows() []keyRow {
	return []keyRow{
		// In one of them alone.
		{`1`, ``, ``, ``, false},
		{``, `1`, ``, `1`, false},
		{``, ``, `1`, `1`, false},
		{`{"x":1}`, ``, ``, ``, false},
		{``, `{"x":1}`, ``, `{"x":1}`, false},
		{``, ``, `{"x":1}`, `{"x":1}`, false},
		{`null`, ``, ``, ``, false},
		{``, `null`, ``, `null`, false},
		{``, ``, `null`, `null`, false},
		// Taken away by the second one, left by the first, or turned by it.
		{`1`, `1`, ``, ``, false},
		{`{"x":1}`, `{"x":1}`, ``, ``, false},
		{`null`, `null`, ``, ``, false},
		{`1`, `2`, ``, `2`, true},
		{`1`, `null`, ``, `null`, true},
		{`null`, `1`, ``, `1`, true},
		{`{"x":1}`, `{"x":2}`, ``, `{"x":2}`, true},
		{`{"x":1}`, `{}`, ``, `{}`, true},
		{`{}`, `[]`, ``, `[]`, true},
		// Taken away by the first one, left by the second, or turned by it.
		{`1`, ``, `1`, ``, false},
		{`{"x":1}`, ``, `{"x":1}`, ``, false},
		{`null`, ``, `null`, ``, false},
		{`1`, ``, `2`, ``, true},
		{`1`, ``, `null`, ``, true},
		{`null`, ``, `1`, ``, true},
		{`{"x":1}`, ``, `{"x":2}`, ``, true},
		{`{"x":1}`, ``, `{}`, ``, true},
		{`{}`, ``, `[]`, ``, true},
		// New in both.
		{``, `1`, `1`, `1`, false},
		{``, `null`, `null`, `null`, false},
		{``, `{"x":{"y":1}}`, `{"x":{"y":1}}`, `{"x":{"y":1}}`, false},
		{``, `1`, `2`, `1`, true},
		{``, `null`, `1`, `null`, true},
		{``, `1`, `null`, `1`, true},
		{``, `{"x":1}`, `{"x":2}`, `{"x":1}`, true},
		{``, `{"x":1}`, `{"y":2}`, `{"x":1}`, true},
		{``, `{}`, `{"y":2}`, `{}`, true},
		// In all three.
		{`1`, `1`, `1`, `1`, false},
		{`1`, `2`, `1`, `2`, false},
		{`1`, `1`, `2`, `2`, false},
		{`1`, `2`, `2`, `2`, false},
		{`1`, `2`, `3`, `2`, true},
		{`null`, `null`, `null`, `null`, false},
		{`null`, `1`, `null`, `1`, false},
		{`null`, `null`, `1`, `1`, false},
		{`1`, `null`, `1`, `null`, false},
		{`1`, `1`, `null`, `null`, false},
		{`1`, `null`, `null`, `null`, false},
		{`1`, `null`, `2`, `null`, true},
		{`1`, `2`, `null`, `2`, true},
		{`null`, `1`, `2`, `1`, true},
		{`false`, `0`, `""`, `0`, true},
		{`[1,2]`, `[1,2,3]`, `[1,2]`, `[1,2,3]`, false},
		{`[1,2]`, `[1,2]`, `[]`, `[]`, false},
		{`[1,2]`, `[1,2,3]`, `[2]`, `[1,2,3]`, true},
		{`[{"x":1}]`, `[{"x":2}]`, `[{"x":1,"y":1}]`, `[{"x":2}]`, true},
		// Kids that are no maps in one of the three, or in two.
		{`1`, `{"x":1}`, `{"y":1}`, `{"x":1}`, true},
		{`{"x":1}`, `1`, `{"x":2}`, `1`, true},
		{`{"x":1}`, `{"x":2}`, `1`, `{"x":2}`, true},
		{`{"x":1}`, `[]`, `""`, `[]`, true},
		{`{"x":1}`, `null`, `{"x":2}`, `null`, true},
		{`{"x":1}`, `{"x":2}`, `null`, `{"x":2}`, true},
		{`null`, `{"x":1}`, `{"x":2}`, `{"x":1}`, true},
		{`1`, `{"x":1}`, `{"x":1}`, `{"x":1}`, false},
		{`{"x":1}`, `1`, `{"x":1}`, `1`, false},
		{`{"x":1}`, `{"x":1}`, `1`, `1`, false},
		{`{"x":1}`, `{}`, `{"x":1}`, `{}`, false},
		{`{"x":1}`, `{"x":1}`, `{}`, `{}`, false},
	}
}

func atKey(key, kid string) string {
	if kid == "" {
		return `{}`
	}
	return `{` + impl.Quote(key) + `:` + kid + `}`
}

func keyed(r keyRow, key string) mergeRow {
	row := mergeRow{atKey(key, r.base), atKey(key, r.a), atKey(key, r.b), atKey(key, r.want), nil}
	if r.isWay {
		row.ways = []string{key}
	}
	return row
}

// beside is a row in which the three have more Keys, in which they do not differ.
func beside(r mergeRow) mergeRow {
	with := func(s string) string { return `{"A":{"k":1},"k":` + s + `,"z":null}` }
	row := mergeRow{with(r.base), with(r.a), with(r.b), with(r.want), nil}
	for _, way := range r.ways {
		row.ways = append(row.ways, "k/"+way)
	}
	return row
}

func TestMergeOfOneKey(t *testing.T) {
	for _, r := range keyRows() {
		for _, key := range []string{"a", "", ".", "/", "a/b", "~ ~"} {
			row := keyed(r, key)
			wantMerge(t, row)
			if key != "." {
				wantMerge(t, beside(row))
				wantMerge(t, beside(beside(row)))
			}
		}
	}
}

// Two Keys do not hang on each other.
func TestMergeOfTwoKeys(t *testing.T) {
	join := func(s, other string) string {
		switch `{}` {
		case s:
			return other
		case other:
			return s
		}
		return strings.TrimSuffix(s, "}") + "," + strings.TrimPrefix(other, "{")
	}
	for _, r := range keyRows() {
		for _, s := range keyRows() {
			a, b := keyed(r, "a"), keyed(s, "b")
			wantMerge(t, mergeRow{join(a.base, b.base), join(a.a, b.a), join(a.b, b.b), join(a.want, b.want), append(a.ways, b.ways...)})
		}
	}
}

func mergeRows() []mergeRow {
	whole := []string{"."}
	return []mergeRow{
		// The whole: a and b the same, b and base, a and base, none of these.
		{`null`, `null`, `null`, `null`, nil},
		{`1`, `1`, `1`, `1`, nil},
		{`1`, `2`, `2`, `2`, nil},
		{`1`, `2`, `1`, `2`, nil},
		{`1`, `1`, `2`, `2`, nil},
		{`1`, `2`, `3`, `2`, whole},
		{`{}`, `{}`, `{}`, `{}`, nil},
		{`{"a":1}`, `{"a":2,"b":3}`, `{"a":2,"b":3}`, `{"a":2,"b":3}`, nil},
		{`{"a":1}`, `[]`, `[]`, `[]`, nil},
		{`{"a":1}`, `{"b":1}`, `{"a":1}`, `{"b":1}`, nil},
		{`{"a":1}`, `{"a":1}`, `{"b":1}`, `{"b":1}`, nil},
		{`{"a":1}`, `null`, `{"a":1}`, `null`, nil},
		{`{"a":1}`, `{"a":1}`, `null`, `null`, nil},
		{`null`, `{"a":1}`, `null`, `{"a":1}`, nil},
		{`null`, `null`, `{"a":1}`, `{"a":1}`, nil},
		// One of the three that is no map, or two, or all.
		{`null`, `{"a":1}`, `{"b":1}`, `{"a":1}`, whole},
		{`{"a":1}`, `null`, `{"b":1}`, `null`, whole},
		{`{"a":1}`, `{"b":1}`, `null`, `{"b":1}`, whole},
		{`{"a":1}`, `1`, `2`, `1`, whole},
		{`1`, `{"a":1}`, `2`, `{"a":1}`, whole},
		{`1`, `2`, `{"a":1}`, `2`, whole},
		{`[]`, `[1]`, `[2]`, `[1]`, whole},
		{`[1,2]`, `[1,2,3]`, `[0,1,2]`, `[1,2,3]`, whole},
		{`[{"a":1}]`, `[{"a":2}]`, `[{"a":1,"b":1}]`, `[{"a":2}]`, whole},
		{`"a"`, `"b"`, `"c"`, `"b"`, whole},
		{`true`, `false`, `null`, `false`, whole},
		{`0`, `false`, `""`, `false`, whole},
		{`null`, `[]`, `{}`, `[]`, whole},
		// What each of two did on its own.
		{`{"a":1,"b":2}`, `{"a":3,"b":2}`, `{"a":1,"b":4}`, `{"a":3,"b":4}`, nil},
		{`{"a":1,"b":2}`, `{"a":1}`, `{"b":2}`, `{}`, nil},
		{`{}`, `{"a":1}`, `{"b":2}`, `{"a":1,"b":2}`, nil},
		{`{}`, `{"b":2}`, `{"a":1}`, `{"a":1,"b":2}`, nil},
		{`{"m":0}`, `{"a":1,"m":0,"x":2}`, `{"":3,"m":0,"p":4}`, `{"":3,"a":1,"m":0,"p":4,"x":2}`, nil},
		{`{"a":{"x":1,"y":2}}`, `{"a":{"x":3,"y":2}}`, `{"a":{"x":1}}`, `{"a":{"x":3}}`, nil},
		{`{"a":{"x":1,"y":2}}`, `{"a":{"x":1}}`, `{"a":{"y":2}}`, `{"a":{}}`, nil},
		{`{"a":{"x":{"p":1},"y":2}}`, `{"a":{"x":{"p":1,"q":2},"y":2}}`, `{"a":{"x":{"o":3,"p":1},"z":4}}`, `{"a":{"x":{"o":3,"p":1,"q":2},"z":4}}`, nil},
		// Both the same within, each something else beside it.
		{`{"a":1}`, `{"a":2,"b":1}`, `{"a":2,"c":1}`, `{"a":2,"b":1,"c":1}`, nil},
		{`{"a":1,"b":1}`, `{"b":2}`, `{"b":1,"c":1}`, `{"b":2,"c":1}`, nil},
		{`{"a":1,"b":1}`, `{"b":2,"n":[1]}`, `{"b":1,"c":1,"n":[1]}`, `{"b":2,"c":1,"n":[1]}`, nil},
		// Ways of what stands within maps.
		{`{"a":{"x":1}}`, `{"a":{"x":2}}`, `{"a":{"x":3}}`, `{"a":{"x":2}}`, []string{"a/x"}},
		{`{"a":{"b":{"c":1}}}`, `{"a":{"b":{"c":2}}}`, `{"a":{"b":{"c":3}}}`, `{"a":{"b":{"c":2}}}`, []string{"a/b/c"}},
		{`{"a":{"b":{"c":1}}}`, `{"a":{"b":{}}}`, `{"a":{"b":{"c":3}}}`, `{"a":{"b":{}}}`, []string{"a/b/c"}},
		{`{"a":{"b":{"c":1}}}`, `{"a":{}}`, `{"a":{"b":{"c":3}}}`, `{"a":{}}`, []string{"a/b"}},
		{`{"a":{"b":{"c":1}}}`, `{}`, `{"a":{"b":{"c":3}}}`, `{}`, []string{"a"}},
		{`{"a":{"b":{"c":1}}}`, `{"a":{"b":7}}`, `{"a":{"b":{"c":3}}}`, `{"a":{"b":7}}`, []string{"a/b"}},
		{`{"a":{"b":{"c":1}}}`, `{"a":{"b":{"c":2}}}`, `{"a":7}`, `{"a":{"b":{"c":2}}}`, []string{"a"}},
		{`{"a":{}}`, `{"a":{"b":{"c":2}}}`, `{"a":{"b":{"c":3}}}`, `{"a":{"b":{"c":2}}}`, []string{"a/b"}},
		{`{}`, `{"a":{"b":2}}`, `{"a":{"b":3}}`, `{"a":{"b":2}}`, []string{"a"}},
		{`{"a":[{"x":1}]}`, `{"a":[{"x":2}]}`, `{"a":[{"x":3}]}`, `{"a":[{"x":2}]}`, []string{"a"}},
		// The empty Key, and Keys that have in them what ways are made of.
		{`{"":1}`, `{"":2}`, `{"":3}`, `{"":2}`, []string{""}},
		{`{"":{"":1}}`, `{"":{"":2}}`, `{"":{"":3}}`, `{"":{"":2}}`, []string{"/"}},
		{`{"":{"":{"":1}}}`, `{"":{"":{"":2}}}`, `{"":{"":{"":3}}}`, `{"":{"":{"":2}}}`, []string{"//"}},
		{`{"a":{"":1}}`, `{"a":{"":2}}`, `{"a":{"":3}}`, `{"a":{"":2}}`, []string{"a/"}},
		{`{"":{"a":1}}`, `{"":{"a":2}}`, `{"":{"a":3}}`, `{"":{"a":2}}`, []string{"/a"}},
		{`{"":1,"a":1}`, `{"":2,"a":2}`, `{"":3,"a":3}`, `{"":2,"a":2}`, []string{"", "a"}},
		{`{"a/b":{"c":1}}`, `{"a/b":{"c":2}}`, `{"a/b":{"c":3}}`, `{"a/b":{"c":2}}`, []string{"a/b/c"}},
		{`{"a":{"b":1},"a/b":1}`, `{"a":{"b":2},"a/b":2}`, `{"a":{"b":3},"a/b":3}`, `{"a":{"b":2},"a/b":2}`, []string{"a/b", "a/b"}},
		{`{".":1}`, `{".":2}`, `{".":3}`, `{".":2}`, whole},
		{`{".":{"x":1}}`, `{".":{"x":2}}`, `{".":{"x":3}}`, `{".":{"x":2}}`, []string{"./x"}},
		{`{"..":{"..":1}}`, `{"..":{"..":2}}`, `{"..":{"..":3}}`, `{"..":{"..":2}}`, []string{"../.."}},
		// A way `.` of a Kid is the Key alone, also where it is a Key's.
		{`{"a":{".":1}}`, `{"a":{".":2}}`, `{"a":{".":3}}`, `{"a":{".":2}}`, []string{"a"}},
		{`{"a":{".":1,"b":1}}`, `{"a":{".":2,"b":2}}`, `{"a":{".":3,"b":3}}`, `{"a":{".":2,"b":2}}`, []string{"a", "a/b"}},
		// Ways are in the order of the Keys, by their bytes: not in that of the ways' own.
		{`{"a":1,"b":2,"c":3}`, `{"a":4,"b":5,"c":6}`, `{"a":7,"b":8,"c":9}`, `{"a":4,"b":5,"c":6}`, []string{"a", "b", "c"}},
		{`{"10":1,"9":1,"B":1,"a":1,"aa":1}`, `{"10":2,"9":2,"B":2,"a":2,"aa":2}`, `{"10":3,"9":3,"B":3,"a":3,"aa":3}`, `{"10":2,"9":2,"B":2,"a":2,"aa":2}`, []string{"10", "9", "B", "a", "aa"}},
		{`{"a":{"x":1},"a!":1}`, `{"a":{"x":2},"a!":2}`, `{"a":{"x":3},"a!":3}`, `{"a":{"x":2},"a!":2}`, []string{"a/x", "a!"}},
		{`{"a":{"x":1},"a-b":{"x":1}}`, `{"a":{"x":2},"a-b":{"x":2}}`, `{"a":{"x":3},"a-b":{"x":3}}`, `{"a":{"x":2},"a-b":{"x":2}}`, []string{"a/x", "a-b/x"}},
		{`{"":{"x":1}," ":1}`, `{"":{"x":2}," ":2}`, `{"":{"x":3}," ":3}`, `{"":{"x":2}," ":2}`, []string{"/x", " "}},
		{`{"a":{"z":1},"b":1,"c":{"a":1}}`, `{"a":{"z":2},"b":2,"c":{"a":2}}`, `{"a":{"z":3},"b":3,"c":{"a":3}}`, `{"a":{"z":2},"b":2,"c":{"a":2}}`, []string{"a/z", "b", "c/a"}},
		{`{"a":1,"b":1,"c":1}`, `{"b":1,"c":2,"d":1}`, `{"a":2,"c":3,"d":2}`, `{"c":2,"d":1}`, []string{"a", "c", "d"}},
		{`{"a":1,"b":1,"c":1}`, `{"a":2,"c":3,"d":2}`, `{"b":1,"c":2,"d":1}`, `{"a":2,"c":3,"d":2}`, []string{"a", "c", "d"}},
		// What both agree on beside what they do not.
		{`{"a":1,"b":1}`, `{"a":2,"b":2}`, `{"a":3,"b":1,"c":1}`, `{"a":2,"b":2,"c":1}`, []string{"a"}},
		{`{"a":{"x":1,"y":1},"b":1}`, `{"a":{"x":2,"y":1}}`, `{"a":{"x":3,"y":2},"b":1,"c":{}}`, `{"a":{"x":2,"y":2},"c":{}}`, []string{"a/x"}},
	}
}

func TestMerge(t *testing.T) {
	for _, r := range mergeRows() {
		wantMerge(t, r)
	}
}

func wantMerge(t *testing.T, r mergeRow) {
	t.Helper()
	base, a, b := written(t, r.base), written(t, r.a), written(t, r.b)
	got, ways := impl.Merge(base, a, b)
	what := fmt.Sprintf("Merge(%s, %s, %s)", r.base, r.a, r.b)
	wantTree(t, what, got, written(t, r.want))
	if !slices.Equal(ways, r.ways) {
		t.Fatalf("%s tells the ways %q, want %q", what, ways, r.ways)
	}
	wantPromise(t, base, a, b)
}

// wantPromise asks for what follows, of whatever three there are, and for Agreed.
func wantPromise(t *testing.T, base, a, b node) {
	t.Helper()
	wantWhole(t, base, a, base, a)
	wantWhole(t, base, base, a, a)
	wantWhole(t, base, a, a, a)
	wantWhole(t, base, base, base, base)
	merged, ways := impl.Merge(base, a, b)
	other, others := impl.Merge(base, b, a)
	if !slices.Equal(ways, others) {
		t.Fatalf("of %s, %s and %s the ways are %q, and %q with the other first", brief(base), brief(a), brief(b), ways, others)
	}
	agreed := len(ways) == 0
	if impl.Agreed(base, a, b) != agreed || impl.Agreed(base, b, a) != agreed {
		t.Fatalf("of %s, %s and %s the ways are %q, but Agreed is %v", brief(base), brief(a), brief(b), ways, !agreed)
	}
	if agreed {
		wantTree(t, fmt.Sprintf("of %s, %s and %s with the other first", brief(base), brief(a), brief(b)), other, merged)
	}
}

func wantWhole(t *testing.T, base, a, b, want node) {
	t.Helper()
	what := fmt.Sprintf("Merge(%s, %s, %s)", brief(base), brief(a), brief(b))
	got, ways := impl.Merge(base, a, b)
	wantTree(t, what, got, want)
	if len(ways) > 0 || !impl.Agreed(base, a, b) {
		t.Fatalf("%s tells the ways %q, and Agreed %v", what, ways, impl.Agreed(base, a, b))
	}
}

// What is merged may have more Keys than a tree may.
func TestMergeOfTheGreatestTrees(t *testing.T) {
	one, other := manyKeys(impl.MaxNodes-1), manyKeys(impl.MaxNodes-1)
	both := model(one)
	for i := range other.Keys {
		other.Keys[i] += "x"
		both[other.Keys[i]] = other.Kids[i]
	}
	got, ways := impl.Merge(mapNode(nil), one, other)
	wantTree(t, "many Keys", got, mapOf(both))
	if len(ways) > 0 || len(got.Keys) != 2*(impl.MaxNodes-1) || impl.TreeOk(got) {
		t.Errorf("%d Keys, the ways %q", len(got.Keys), ways)
	}
	wantPromise(t, mapNode(nil), one, other)
	got, ways = impl.Merge(one, mapNode(nil), other)
	wantTree(t, "all taken away", got, other)
	if len(ways) > 0 {
		t.Errorf("the ways %q", ways)
	}
	turned := snapshot(one)
	for i := range turned.Kids {
		turned.Kids[i] = textNode("turned")
	}
	got, ways = impl.Merge(one, turned, mapNode(nil))
	wantTree(t, "all turned and taken away", got, turned)
	if !slices.Equal(ways, one.Keys) {
		t.Errorf("the ways %q", ways)
	}
	wantPromise(t, one, turned, mapNode(nil))
	deepest := func(n int) node { return chain(impl.MaxDeep, intNode(n), true) }
	got, ways = impl.Merge(deepest(1), deepest(2), deepest(3))
	wantTree(t, "the deepest", got, deepest(2))
	if !slices.Equal(ways, []string{"k/k/k/k/k/k/k"}) {
		t.Errorf("the ways %q", ways)
	}
}

// What begins with what another one is, and Keys that are no Keys of a tree, are Keys as others.
func TestMergeByStrangeKeys(t *testing.T) {
	keys := append(testKeys(), strings.Repeat("k", 100000))
	slices.Sort(keys)
	all := func(n int) node {
		out := node{Kind: impl.NdMap}
		for _, key := range keys {
			out.Keys, out.Kids = append(out.Keys, key), append(out.Kids, intNode(n))
		}
		return out
	}
	got, ways := impl.Merge(all(1), all(2), all(3))
	wantTree(t, "all turned", got, all(2))
	if !slices.Equal(ways, keys) {
		t.Errorf("the ways %.300q", ways)
	}
	for i, key := range keys {
		a, b := putAt(all(1), intNode(2), key), putAt(all(1), intNode(3), key)
		less, next := cutAt(all(1), key), keys[(i+1)%len(keys)]
		rows := []struct {
			base, a, b, want node
			ways             []string
		}{
			{all(1), a, b, a, []string{key}},
			{all(1), less, b, less, []string{key}},
			{all(1), a, less, a, []string{key}},
			{less, a, b, a, []string{key}},
			{less, a, putAt(less, intNode(5), next), putAt(a, intNode(5), next), nil},
			{all(1), less, putAt(all(1), intNode(5), next), putAt(less, intNode(5), next), nil},
			{mapNode([]string{"k"}, all(1)), mapNode([]string{"k"}, a), mapNode([]string{"k"}, b), mapNode([]string{"k"}, a), []string{"k/" + key}},
			{mapNode([]string{key}, all(1)), mapNode([]string{key}, a), mapNode([]string{key}, b), mapNode([]string{key}, a), []string{key + "/" + key}},
		}
		for _, r := range rows {
			got, ways := impl.Merge(r.base, r.a, r.b)
			wantTree(t, fmt.Sprintf("at %.20q", key), got, r.want)
			if !slices.Equal(ways, r.ways) {
				t.Errorf("at %.20q: the ways %.300q, want %.300q", key, ways, r.ways)
			}
		}
	}
}
