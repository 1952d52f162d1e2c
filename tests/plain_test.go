package tests

import (
	"fmt"
	"strings"
	"testing"

	"loop.example/g00465/impl"
)

const (
	letters    = "abcdefghijklmnopqrstuvwxyzABCDEFGHIJKLMNOPQRSTUVWXYZ"
	plainBytes = letters + "0123456789_./-"
)

func wantPlain(t *testing.T, s string, want bool) {
	t.Helper()
	if got := impl.PlainOk(s); got != want {
		t.Errorf("PlainOk(%.80q) = %v, want %v", s, got, want)
	}
}

func TestPlainOkOfEachByte(t *testing.T) {
	for b := range 256 {
		c := string([]byte{byte(b)})
		first, behind := strings.Contains(letters, c), strings.Contains(plainBytes, c)
		for _, rest := range []string{"", "a", "1", "-", "a.b/c-1_d"} {
			wantPlain(t, c+rest, first)
		}
		for _, s := range []string{"a" + c, "Z" + c + "z", "ab" + c + c, strings.Repeat("a", 59) + c, "a" + c + strings.Repeat("b", 58)} {
			wantPlain(t, s, behind)
		}
	}
}

func TestPlainOkHowLong(t *testing.T) {
	wantPlain(t, "", false)
	for n, want := range map[int]bool{1: true, 2: true, 59: true, 60: true, 61: false, 62: false, impl.MaxText: false, 100000: false} {
		wantPlain(t, strings.Repeat("a", n), want)
		wantPlain(t, "Z"+strings.Repeat("-", n-1), want)
		wantPlain(t, strings.Repeat("1", n), false)
	}
}

func TestPlainOkOfWords(t *testing.T) {
	for _, s := range []string{"null", "true", "false"} {
		wantPlain(t, s, false)
		for _, near := range []string{s + "s", s + "1", s + "-", s + "." + s, "a" + s, s + s, s[:3], strings.ToUpper(s), strings.ToUpper(s[:1]) + s[1:]} {
			wantPlain(t, near, true)
		}
	}
	for _, s := range []string{"web", "cpu", "a", "Z", "n", "nil", "none", "yes", "no", "on", "a.b/c-1", "quay/pace", "a--", "a//", "x_y", "e3", "A0"} {
		wantPlain(t, s, true)
	}
	for _, s := range []string{" web", "web ", "a b", "a:", "a: 1", "#a", "-a", "_a", ".a", "/a", "1a", "0", "-1", `"a"`, "a\n", "\na", "a,b", "[a]", "{}", "\u00e9", "a\u00e9", "a\x00", "~", "a~b", "a@b", "a`b", "a[b", "a{b"} {
		wantPlain(t, s, false)
	}
}

func TestInline(t *testing.T) {
	rows := []struct {
		tree node
		want string
	}{
		{textNode("web"), "web"},
		{textNode("a.b/c-1_Z"), "a.b/c-1_Z"},
		{textNode(strings.Repeat("a", 60)), strings.Repeat("a", 60)},
		{textNode(strings.Repeat("a", 61)), `"` + strings.Repeat("a", 61) + `"`},
		{textNode(""), `""`},
		{textNode("12"), `"12"`},
		{textNode("-"), `"-"`},
		{textNode("null"), `"null"`},
		{textNode("true"), `"true"`},
		{textNode("false"), `"false"`},
		{textNode("nulls"), "nulls"},
		{textNode("x y"), `"x y"`},
		{textNode("a: 1"), `"a: 1"`},
		{textNode("# a"), `"# a"`},
		{textNode(`a"\`), `"a\"\\"`},
		{node{}, "null"},
		{flagNode(0), "false"},
		{flagNode(1), "true"},
		{intNode(0), "0"},
		{intNode(-12), "-12"},
		{listNode(), "[]"},
		{mapNode(nil), "{}"},
		{listNode(textNode("web"), intNode(1)), `["web",1]`},
		{mapNode([]string{"web"}, textNode("web")), `{"web":"web"}`},
	}
	for _, r := range rows {
		if got := impl.Inline(r.tree); got != r.want {
			t.Errorf("Inline(%s) = %.90q, want %.90q", brief(r.tree), got, r.want)
		}
	}
	for i, n := range badTrees() {
		want := ""
		// A text that is PlainOk is told as it is, whatever else the node has.
		if n.Kind == impl.NdText && impl.PlainOk(n.S) {
			want = n.S
		}
		if got := impl.Inline(n); got != want {
			t.Errorf("bad tree %d: Inline(%s) = %.60q, want %q", i, brief(n), got, want)
		}
	}
}

func TestInlineIsBracedOfAllElse(t *testing.T) {
	for i, n := range goodTrees() {
		want := impl.Braced(n)
		if n.Kind == impl.NdText && impl.PlainOk(n.S) {
			want = n.S
		}
		arg := roomy(n)
		was := wholeRoom(arg)
		if got := impl.Inline(arg); got != want {
			t.Errorf("good tree %d: Inline(%s) = %.90q, want %.90q", i, brief(n), got, want)
		}
		wantTree(t, fmt.Sprintf("Inline of tree %d, what was handed in", i), wholeRoom(arg), was)
	}
}
