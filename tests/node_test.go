package tests

import (
	"fmt"
	"reflect"
	"slices"
	"testing"
)

// snapshot copies a tree by the test's own means, and nothing of it is shared.
func snapshot(n node) node {
	out := n
	out.Keys, out.Kids = slices.Clone(n.Keys), slices.Clone(n.Kids)
	for i := range out.Kids {
		out.Kids[i] = snapshot(out.Kids[i])
	}
	return out
}

// brief is the beginning of a tree, enough for a failure to be known by.
func brief(n ...node) string { return fmt.Sprintf("%.300s", fmt.Sprint(n)) }

// tidy is a snapshot in which empty lists are nil, as both are the same value.
func tidy(n node) node {
	out := snapshot(n)
	if len(out.Keys) == 0 {
		out.Keys = nil
	}
	if len(out.Kids) == 0 {
		out.Kids = nil
	}
	for i := range out.Kids {
		out.Kids[i] = tidy(out.Kids[i])
	}
	return out
}

func wantTree(t *testing.T, what string, got node, want node) {
	t.Helper()
	if !reflect.DeepEqual(tidy(got), tidy(want)) {
		t.Fatalf("%s: %s, want %s", what, brief(got), brief(want))
	}
}

// roomy is a copy with spare room behind each of its lists, in which something stands.
func roomy(n node) node {
	out := n
	keys := append(append(make([]string, 0, len(n.Keys)+3), n.Keys...), "spare", "spare", "spare")
	kids := make([]node, 0, len(n.Kids)+3)
	for _, kid := range n.Kids {
		kids = append(kids, roomy(kid))
	}
	for range 3 {
		kids = append(kids, node{Kind: 77, S: "spare"})
	}
	out.Keys, out.Kids = keys[:len(n.Keys)], kids[:len(n.Kids)]
	return out
}

// wholeRoom is a copy in which spare room is part of the lists.
func wholeRoom(n node) node {
	out := n
	out.Keys, out.Kids = slices.Clone(n.Keys[:cap(n.Keys)]), slices.Clone(n.Kids[:cap(n.Kids)])
	for i := range out.Kids {
		out.Kids[i] = wholeRoom(out.Kids[i])
	}
	return out
}

// places are the addresses of all that the lists of a tree have room for.
func places(n node, seen map[any]int) {
	keys, kids := n.Keys[:cap(n.Keys)], n.Kids[:cap(n.Kids)]
	for i := range keys {
		seen[&keys[i]]++
	}
	for i := range kids {
		seen[&kids[i]]++
		places(kids[i], seen)
	}
}

// ownMemory fails where the lists of an answer share memory with each other or with an argument.
func ownMemory(t *testing.T, what string, answer node, args ...node) {
	t.Helper()
	own, theirs := map[any]int{}, map[any]int{}
	places(answer, own)
	for _, arg := range args {
		places(arg, theirs)
	}
	for p, n := range own {
		if n > 1 {
			t.Fatalf("%s: two lists of the answer share memory: %s", what, brief(answer))
		}
		if theirs[p] > 0 {
			t.Fatalf("%s: the answer shares memory with an argument: %s", what, brief(answer))
		}
	}
}

// scribble writes into all that the lists of a tree have room for.
func scribble(n node) {
	keys, kids := n.Keys[:cap(n.Keys)], n.Kids[:cap(n.Kids)]
	for i := range kids {
		scribble(kids[i])
		kids[i] = node{Kind: 66, S: "scribbled"}
	}
	for i := range keys {
		keys[i] = "scribbled"
	}
}

// readsShareNothing reads each text more than once, and writes into one answer ahead of looking at another.
func readsShareNothing(t *testing.T, what string, read func(string) (node, int), texts []string) {
	t.Helper()
	for _, s := range texts {
		got, place := read(s)
		if place != -1 {
			t.Fatalf("%s(%.60q) answers the place %d", what, s, place)
		}
		was := snapshot(got)
		again, _ := read(s)
		ownMemory(t, what, got, again)
		scribble(again)
		wantTree(t, "an earlier answer, the later one written into", got, was)
		third, _ := read(s)
		wantTree(t, "a later answer, the earlier one written into", third, was)
	}
}

// writesIntoNothing hands in trees with spare room behind their lists, and looks at them again.
func writesIntoNothing(t *testing.T, what string, write func(node) string) {
	t.Helper()
	for i, n := range append(goodTrees(), badTrees()[:60]...) {
		arg := roomy(n)
		was := wholeRoom(arg)
		first := write(arg)
		wantTree(t, fmt.Sprintf("%s of tree %d, what was handed in", what, i), wholeRoom(arg), was)
		if again := write(n); again != first {
			t.Errorf("%s of tree %d is %.60q, then %.60q", what, i, first, again)
		}
	}
}
