package tests

import (
	"fmt"
	"slices"
	"strings"
	"testing"

	"loop.example/g00465/impl"
)

// ascending is false of Keys that are there twice, too.
func ascending(keys []string) bool {
	for i := range keys {
		if i > 0 && keys[i-1] >= keys[i] {
			return false
		}
	}
	return true
}

func TestNoNull(t *testing.T) {
	rows := []struct {
		text string
		want bool
	}{
		{`null`, true},
		{`true`, true},
		{`0`, true},
		{`""`, true},
		{`"null"`, true},
		{`[]`, true},
		{`{}`, true},
		{`[null]`, true},
		{`[null,null,1]`, true},
		{`[[[null]]]`, true},
		{`{"a":[null]}`, true},
		{`{"a":[null,{"b":[null]}]}`, true},
		{`{"null":1}`, true},
		{`{"":{},"a":{"b":{"c":[]}}}`, true},
		{`{"a":null}`, false},
		{`{"":null}`, false},
		{`{"a":null,"b":1}`, false},
		{`{"a":1,"b":null}`, false},
		{`{"a":1,"b":null,"c":2}`, false},
		{`{"a":{"b":null}}`, false},
		{`{"a":{"b":{"c":{"d":null}}}}`, false},
		{`{"a":1,"b":{"c":{}},"d":{"e":null}}`, false},
		{`[{"a":null}]`, false},
		{`[1,null,{"a":1},{"a":null}]`, false},
		{`[[[{"a":[{"b":null}]}]]]`, false},
		{`{"a":[null,{"b":null}]}`, false},
		{`{"a":[{"b":[{"c":null}]}]}`, false},
	}
	for _, r := range rows {
		if got := impl.NoNull(written(t, r.text)); got != r.want {
			t.Errorf("NoNull(%s) = %v", r.text, got)
		}
	}
	for i, n := range goodTrees() {
		if got := impl.NoNull(n); got != !nullIn(n) {
			t.Errorf("NoNull of good tree %d = %v: %s", i, got, brief(n))
		}
	}
	deep := chain(impl.MaxDeep-1, mapNode(nil), false)
	if !impl.NoNull(deep) || impl.NoNull(chain(impl.MaxDeep-1, mapNode([]string{"a"}, node{}), false)) || impl.NoNull(chain(impl.MaxDeep+1, intNode(1), true)) {
		t.Error("the deepest trees")
	}
}

// What is no tree is not without nothing either, though there is nothing in no map of it.
func TestNoNullOfWhatIsNoTree(t *testing.T) {
	for i, n := range badTrees() {
		for _, tree := range []node{n, listNode(n), mapNode([]string{"a"}, n), mapNode([]string{"a", "b"}, intNode(1), listNode(n))} {
			if impl.NoNull(tree) {
				t.Errorf("bad tree %d: %s", i, brief(n))
			}
		}
	}
	for _, n := range []node{{Kind: 6}, intNode(impl.MaxInt + 1), textNode("\n"), flagNode(2), mapNode([]string{"b", "a"}, intNode(1), intNode(2)), mapNode([]string{"a", "a"}, intNode(1), intNode(1)), mapNode([]string{"a"}), chain(impl.MaxDeep+1, listNode(), false), listNode(manyKids(impl.MaxNodes - 1))} {
		if impl.NoNull(n) {
			t.Errorf("NoNull(%s)", brief(n))
		}
	}
	ring := make([]node, 2)
	ring[0], ring[1] = listNode(ring...), mapNode([]string{"a", "b"}, ring...)
	if impl.NoNull(listNode(ring...)) || impl.NoNull(ring[1]) {
		t.Error("a ring is accepted")
	}
}

type changeRow struct{ a, b, p string }

// Rows are of a tree, another one, and the change; where the other one is NoNull it is what there is behind the change.
func changeRows() []changeRow {
	return []changeRow{
		// One that is no map, or both.
		{`null`, `null`, `null`},
		{`null`, `1`, `1`},
		{`1`, `null`, `null`},
		{`1`, `1`, `1`},
		{`1`, `2`, `2`},
		{`[1]`, `[1]`, `[1]`},
		{`[1,2]`, `[2]`, `[2]`},
		{`{}`, `1`, `1`},
		{`{"a":1}`, `null`, `null`},
		{`{"a":1}`, `[{"a":1}]`, `[{"a":1}]`},
		{`{"a":1}`, `"{}"`, `"{}"`},
		{`1`, `{}`, `{}`},
		{`null`, `{"a":1}`, `{"a":1}`},
		{`[{"a":1}]`, `{"a":1}`, `{"a":1}`},
		{`[]`, `{"a":{"b":null}}`, `{"a":{"b":null}}`},
		// Maps.
		{`{}`, `{}`, `{}`},
		{`{"a":1}`, `{"a":1}`, `{}`},
		{`{"a":1}`, `{}`, `{"a":null}`},
		{`{"a":1,"b":{"c":2},"d":[3]}`, `{}`, `{"a":null,"b":null,"d":null}`},
		{`{}`, `{"a":1}`, `{"a":1}`},
		{`{}`, `{"a":1,"b":{"c":2},"d":[3]}`, `{"a":1,"b":{"c":2},"d":[3]}`},
		{`{"a":1}`, `{"a":2}`, `{"a":2}`},
		{`{"a":1}`, `{"b":1}`, `{"a":null,"b":1}`},
		{`{"b":1}`, `{"a":1}`, `{"a":1,"b":null}`},
		{`{"a":1,"b":2,"c":3}`, `{"a":1,"b":4,"d":5}`, `{"b":4,"c":null,"d":5}`},
		{`{"b":1,"d":2}`, `{"a":3,"b":1,"c":4,"d":2,"e":5}`, `{"a":3,"c":4,"e":5}`},
		{`{"a":3,"b":1,"c":4,"d":2,"e":5}`, `{"b":1,"d":2}`, `{"a":null,"c":null,"e":null}`},
		{`{"":1,"B":2,"a":3}`, `{"":2,"B":2,"aa":3}`, `{"":2,"a":null,"aa":3}`},
		{`{"10":1}`, `{"9":1}`, `{"10":null,"9":1}`},
		// Maps within maps.
		{`{"a":{}}`, `{"a":{}}`, `{}`},
		{`{"a":{"x":1}}`, `{"a":{"x":1}}`, `{}`},
		{`{"a":{"x":1}}`, `{"a":{"x":2}}`, `{"a":{"x":2}}`},
		{`{"a":{"x":1,"y":2}}`, `{"a":{"x":1}}`, `{"a":{"y":null}}`},
		{`{"a":{"x":1,"y":2}}`, `{"a":{}}`, `{"a":{"x":null,"y":null}}`},
		{`{"a":{}}`, `{"a":{"x":{}}}`, `{"a":{"x":{}}}`},
		{`{"a":{"x":{"y":{"z":1,"w":2}}}}`, `{"a":{"x":{"y":{"z":3,"w":2}}}}`, `{"a":{"x":{"y":{"z":3}}}}`},
		{`{"a":{"x":1},"b":{"x":1}}`, `{"a":{"x":1},"b":{"x":1,"y":{"x":1}}}`, `{"b":{"y":{"x":1}}}`},
		// Lists are changed as a whole.
		{`{"a":[1]}`, `{"a":[1]}`, `{}`},
		{`{"a":[1]}`, `{"a":[1,2]}`, `{"a":[1,2]}`},
		{`{"a":[1,2]}`, `{"a":[2,1]}`, `{"a":[2,1]}`},
		{`{"a":[1]}`, `{"a":[]}`, `{"a":[]}`},
		{`{"a":[{"x":1,"y":2}]}`, `{"a":[{"x":1}]}`, `{"a":[{"x":1}]}`},
		{`{"a":[null]}`, `{"a":[null,null]}`, `{"a":[null,null]}`},
		{`{"a":[{"x":null}]}`, `{"a":[{}]}`, `{"a":[{}]}`},
		// A map that becomes another kind, and the other way.
		{`{"a":{"x":1}}`, `{"a":1}`, `{"a":1}`},
		{`{"a":{"x":1}}`, `{"a":[]}`, `{"a":[]}`},
		{`{"a":{"x":1}}`, `{"a":[{"x":1}]}`, `{"a":[{"x":1}]}`},
		{`{"a":{}}`, `{"a":""}`, `{"a":""}`},
		{`{"a":1}`, `{"a":{"x":1}}`, `{"a":{"x":1}}`},
		{`{"a":[]}`, `{"a":{}}`, `{"a":{}}`},
		{`{"a":[{"x":1}]}`, `{"a":{"x":1}}`, `{"a":{"x":1}}`},
		{`{"a":false}`, `{"a":0}`, `{"a":0}`},
		{`{"a":1}`, `{"a":"1"}`, `{"a":"1"}`},
		// Nothing on either side.
		{`{"a":null}`, `{"a":null}`, `{}`},
		{`{"a":null}`, `{}`, `{"a":null}`},
		{`{"a":null}`, `{"a":1}`, `{"a":1}`},
		{`{"a":null}`, `{"a":{"x":1}}`, `{"a":{"x":1}}`},
		{`{"a":null,"b":1}`, `{"b":1}`, `{"a":null}`},
		{`{"a":{"x":null}}`, `{"a":{}}`, `{"a":{"x":null}}`},
		{`{"a":{"x":null}}`, `{"a":{"x":{}}}`, `{"a":{"x":{}}}`},
		{`{}`, `{"a":null}`, `{"a":null}`},
		{`{"a":1}`, `{"a":null}`, `{"a":null}`},
		{`{"a":{"x":1}}`, `{"a":null}`, `{"a":null}`},
		{`{"a":{"x":1}}`, `{"a":{"x":null}}`, `{"a":{"x":null}}`},
		{`{"a":1}`, `{"a":{"x":null}}`, `{"a":{"x":null}}`},
		{`{}`, `{"a":{"x":null,"y":1}}`, `{"a":{"x":null,"y":1}}`},
	}
}

func TestChange(t *testing.T) {
	for _, r := range changeRows() {
		a, b := written(t, r.a), written(t, r.b)
		wantTree(t, fmt.Sprintf("Change(%s, %s)", r.a, r.b), impl.Change(a, b), written(t, r.p))
		if impl.NoNull(b) {
			wantOther(t, a, b)
		}
		if a.Kind == impl.NdMap {
			wantTree(t, fmt.Sprintf("Change of %s to itself", r.a), impl.Change(a, a), mapNode(nil))
			wantTree(t, fmt.Sprintf("Changed of %s by nothing", r.a), impl.Changed(a, mapNode(nil)), a)
		}
	}
}

func TestChanged(t *testing.T) {
	rows := []struct{ a, p, want string }{
		// One that is no map, or both.
		{`null`, `null`, `null`},
		{`1`, `2`, `2`},
		{`{"a":1}`, `2`, `2`},
		{`{"a":1}`, `null`, `null`},
		{`{"a":1}`, `[]`, `[]`},
		{`1`, `{"a":2}`, `{"a":2}`},
		{`1`, `{"a":null}`, `{"a":null}`},
		{`null`, `{}`, `{}`},
		{`[1]`, `{"a":{"b":null}}`, `{"a":{"b":null}}`},
		{`[1,2]`, `[null]`, `[null]`},
		// A Key whose Kid is nothing, there or not.
		{`{}`, `{"a":null}`, `{}`},
		{`{"b":1}`, `{"a":null,"c":null}`, `{"b":1}`},
		{`{"a":1}`, `{"a":null}`, `{}`},
		{`{"a":null}`, `{"a":null}`, `{}`},
		{`{"a":{"b":1}}`, `{"a":null}`, `{}`},
		{`{"a":1,"b":2,"c":3}`, `{"a":null,"c":null}`, `{"b":2}`},
		{`{"a":1,"b":2,"c":3}`, `{"b":null}`, `{"a":1,"c":3}`},
		{`{"a":{"x":1,"y":2}}`, `{"a":{"x":null,"z":null}}`, `{"a":{"y":2}}`},
		{`{"a":null,"b":1}`, `{"b":2}`, `{"a":null,"b":2}`},
		// A Key that is not there gets what stands there, with nothing in it or without.
		{`{}`, `{"a":{}}`, `{"a":{}}`},
		{`{}`, `{"a":{"x":null}}`, `{"a":{"x":null}}`},
		{`{}`, `{"a":{"x":{"y":null,"z":1}}}`, `{"a":{"x":{"y":null,"z":1}}}`},
		{`{"b":{"x":1}}`, `{"a":{"x":null},"b":{"x":null}}`, `{"a":{"x":null},"b":{}}`},
		{`{"a":{}}`, `{"a":{"x":{"y":null}}}`, `{"a":{"x":{"y":null}}}`},
		{`{"a":1}`, `{"a":{"x":null}}`, `{"a":{"x":null}}`},
		{`{"a":[]}`, `{"a":{"x":null}}`, `{"a":{"x":null}}`},
		{`{"a":null}`, `{"a":{"x":null}}`, `{"a":{"x":null}}`},
		{`{}`, `{"a":[null]}`, `{"a":[null]}`},
		// Ahead of, among and behind those that there are.
		{`{"b":1,"d":2}`, `{"a":0}`, `{"a":0,"b":1,"d":2}`},
		{`{"b":1,"d":2}`, `{"c":0}`, `{"b":1,"c":0,"d":2}`},
		{`{"b":1,"d":2}`, `{"e":0}`, `{"b":1,"d":2,"e":0}`},
		{`{"b":1,"d":2}`, `{"":7,"B":6,"a":5,"bb":4,"c":3,"e":0,"~":9}`, `{"":7,"B":6,"a":5,"b":1,"bb":4,"c":3,"d":2,"e":0,"~":9}`},
		{`{"b":1,"d":2}`, `{"a":0,"b":null,"c":3,"d":null,"e":4}`, `{"a":0,"c":3,"e":4}`},
		{`{"10":1}`, `{"1":1,"9":1}`, `{"1":1,"10":1,"9":1}`},
		// What there is already.
		{`{"a":1}`, `{"a":1}`, `{"a":1}`},
		{`{"a":1}`, `{"a":2}`, `{"a":2}`},
		{`{"a":{"x":1}}`, `{"a":{}}`, `{"a":{"x":1}}`},
		{`{"a":{"x":1}}`, `{"a":{"x":2,"y":3}}`, `{"a":{"x":2,"y":3}}`},
		{`{"a":{"x":{"y":1,"z":2}}}`, `{"a":{"x":{"y":null,"w":3}}}`, `{"a":{"x":{"w":3,"z":2}}}`},
		{`{"a":{"x":1}}`, `{"a":[]}`, `{"a":[]}`},
		{`{"a":[1,2,3]}`, `{"a":[4]}`, `{"a":[4]}`},
		{`{"a":[{"x":1}]}`, `{"a":[{"x":null}]}`, `{"a":[{"x":null}]}`},
	}
	for _, r := range rows {
		wantTree(t, fmt.Sprintf("Changed(%s, %s)", r.a, r.p), impl.Changed(written(t, r.a), written(t, r.p)), written(t, r.want))
	}
}

// A change may have more Keys than a tree may, and leads to the other one still.
func TestChangesOfTheGreatestTrees(t *testing.T) {
	other := manyKeys(impl.MaxNodes - 1)
	for i := range other.Keys {
		other.Keys[i] += "x"
	}
	list := []node{mapNode(nil), manyKeys(impl.MaxNodes - 1), other, mapNode([]string{"a", "b"}, manyKeys(98), manyKids(99)), mapNode([]string{"a", "b"}, other.Kids[0], manyKeys(197)), chain(impl.MaxDeep, intNode(5), true), chain(impl.MaxDeep, mapNode(nil), true), chain(impl.MaxDeep-1, manyKeys(impl.MaxNodes-impl.MaxDeep+1), true)}
	for _, a := range list {
		for _, b := range list {
			if !impl.NoNull(a) || !impl.NoNull(b) {
				t.Fatalf("no pair: %s, %s", brief(a), brief(b))
			}
			wantOther(t, a, b)
			wantChange(t, a, b)
		}
	}
	if p := impl.Change(list[1], other); len(p.Keys) != 2*(impl.MaxNodes-1) || impl.TreeOk(p) {
		t.Errorf("%d Keys", len(p.Keys))
	}
}

// What begins with what another one is, and Keys that are no Keys of a tree, are Keys as others.
func TestChangesByStrangeKeys(t *testing.T) {
	keys := testKeys()
	slices.Sort(keys)
	a := node{Kind: impl.NdMap}
	for i, key := range keys {
		a.Keys, a.Kids = append(a.Keys, key), append(a.Kids, intNode(i))
	}
	for i, key := range keys {
		less := cutAt(a, key)
		wantTree(t, "one taken away", impl.Change(a, less), mapNode([]string{key}, node{}))
		wantTree(t, "one put in", impl.Change(less, a), mapNode([]string{key}, intNode(i)))
		wantTree(t, "one taken away", impl.Changed(a, mapNode([]string{key}, node{})), less)
		wantTree(t, "one put in", impl.Changed(less, mapNode([]string{key}, intNode(i))), a)
		wantOther(t, a, less)
		wantOther(t, less, a)
	}
	long := strings.Repeat("k", 100000)
	wantTree(t, "a long Key", impl.Changed(mapNode([]string{long + "a"}, intNode(1)), mapNode([]string{long + "a", long + "b"}, node{}, intNode(2))), mapNode([]string{long + "b"}, intNode(2)))
}
