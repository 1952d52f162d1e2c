package tests

import (
	"encoding/json"
	"slices"
	"strings"
	"testing"

	"loop.example/g00465/impl"
)

// What may come next, by the byte, in the test's own telling of a braced text.
const (
	wantValue    = "value"
	wantFirstKid = "value or ]"
	wantFirstKey = "key or }"
	wantKey      = "key"
	wantColon    = "colon"
	wantAfter    = "after a value"
	inText       = "in a text"
	inEscape     = "behind a backslash"
	inMinus      = "behind a minus"
	inZero       = "behind a 0"
	inDigits     = "in digits"
	inWord       = "in a word"
	blankBytes   = " \t\n\r"
	escapedBytes = `"\/`
)

type braceWalk struct {
	state string
	open  string // of each that is open, what closes it
	key   bool   // the text is a Key
	rest  string // of a word
}

// step is false where the byte does not fit.
func (w *braceWalk) step(c byte) bool {
	is := func(set string) bool { return strings.IndexByte(set, c) >= 0 }
	switch w.state {
	case inText:
		switch {
		case c == '"' && w.key:
			w.state = wantColon
		case c == '"':
			w.state = wantAfter
		case c == '\\':
			w.state = inEscape
		default:
			return c >= 32 && c <= 126
		}
		return true
	case inEscape:
		w.state = inText
		return is(escapedBytes)
	case inMinus:
		w.state = inDigits
		if c == '0' {
			w.state = inZero
		}
		return is("0123456789")
	case inWord:
		ok := c == w.rest[0]
		if w.rest = w.rest[1:]; w.rest == "" {
			w.state = wantAfter
		}
		return ok
	case inDigits:
		if is("0123456789") {
			return true
		}
		w.state = wantAfter
	case inZero:
		w.state = wantAfter
	}
	return is(blankBytes) || w.token(c, is)
}

func (w *braceWalk) token(c byte, is func(string) bool) bool {
	switch {
	case w.state == wantFirstKid && c == ']', w.state == wantFirstKey && c == '}', w.state == wantAfter && w.open != "" && c == w.open[len(w.open)-1]:
		w.open, w.state = w.open[:len(w.open)-1], wantAfter
		return true
	case w.state == wantFirstKey || w.state == wantKey:
		w.state, w.key = inText, true
		return c == '"'
	case w.state == wantColon:
		w.state = wantValue
		return c == ':'
	case w.state == wantAfter:
		w.state = wantValue
		if strings.HasSuffix(w.open, "}") {
			w.state = wantKey
		}
		return w.open != "" && c == ','
	}
	return w.value(c, is)
}

func (w *braceWalk) value(c byte, is func(string) bool) bool {
	words := map[byte]string{'n': "ull", 't': "rue", 'f': "alse"}
	switch {
	case c == '[':
		w.state, w.open = wantFirstKid, w.open+"]"
	case c == '{':
		w.state, w.open = wantFirstKey, w.open+"}"
	case c == '"':
		w.state, w.key = inText, false
	case c == '-':
		w.state = inMinus
	case c == '0':
		w.state = inZero
	case is("123456789"):
		w.state = inDigits
	case words[c] != "":
		w.state, w.rest = inWord, words[c]
	default:
		return false
	}
	return true
}

// braceFault is the first place at which a text is no braced one; false where there is none.
func braceFault(s string) (int, bool) {
	w := braceWalk{state: wantValue}
	for i := range len(s) {
		if !w.step(s[i]) {
			return i, true
		}
	}
	whole := w.open == "" && slices.Contains([]string{wantAfter, inZero, inDigits}, w.state)
	return len(s), !whole
}

// jsonTree is a braced text as the library's reader has it, which knows all that a braced text may have; and the place of the first alike Key, or -1.
func jsonTree(t *testing.T, s string) (node, int) {
	t.Helper()
	d := json.NewDecoder(strings.NewReader(s))
	d.UseNumber()
	alike := -1
	return jsonNode(t, d, s, &alike), alike
}

func jsonNode(t *testing.T, d *json.Decoder, s string, alike *int) node {
	t.Helper()
	token, err := d.Token()
	if err != nil {
		t.Fatalf("%q is no text of the library's: %v", s, err)
	}
	switch x := token.(type) {
	case bool:
		return impl.FlagOf(x)
	case string:
		return textNode(x)
	case json.Number:
		n, err := x.Int64()
		if err != nil {
			n = impl.MaxInt + 1
		}
		return intNode(int(n))
	case json.Delim:
		return jsonKids(t, d, s, alike, x)
	}
	return node{}
}

func jsonKids(t *testing.T, d *json.Decoder, s string, alike *int, open json.Delim) node {
	t.Helper()
	list, byKey := listNode(), map[string]node{}
	for d.More() {
		if open == '[' {
			list.Kids = append(list.Kids, jsonNode(t, d, s, alike))
			continue
		}
		place := int(d.InputOffset()) + strings.IndexByte(s[d.InputOffset():], '"')
		key := jsonNode(t, d, s, alike).S
		if _, in := byKey[key]; in && *alike < 0 {
			*alike = place
		}
		byKey[key] = jsonNode(t, d, s, alike)
	}
	if _, err := d.Token(); err != nil {
		t.Fatalf("%q is no text of the library's: %v", s, err)
	}
	if open == '[' {
		return list
	}
	return mapOf(byKey)
}

// held is Unbraced of a text, held against what the test's own walk and the library's reader tell.
func held(t *testing.T, s string) {
	t.Helper()
	if place, bad := braceFault(s); bad {
		wantPlace(t, s, place)
		return
	}
	tree, alike := jsonTree(t, s)
	switch {
	case alike >= 0:
		wantPlace(t, s, alike)
	case len(s) > impl.MaxBytes || !impl.TreeOk(tree):
		wantPlace(t, s, 0)
	default:
		wantRead(t, s, tree)
		again := impl.Braced(tree)
		if len(again) <= impl.MaxBytes {
			wantRead(t, again, tree)
		}
	}
}

// All texts of some bytes each, up to a length, are held against the walk.
func TestUnbracedOfAllShortTexts(t *testing.T) {
	for _, r := range []struct {
		bytes string
		most  int
	}{
		{"[],1 ", 7},
		{"{}:\"a,", 7},
		{"[]{}:\",0-\\", 5},
		{"\"\\/an\n", 6},
		{"-019 ,[]", 5},
		{"nul[],", 6},
		{"\"{:,}[]1", 5},
	} {
		for _, s := range allTexts(r.bytes, r.most) {
			held(t, s)
		}
	}
}

func allTexts(bytes string, most int) []string {
	out, last := []string{""}, []string{""}
	for range most {
		var longer []string
		for _, s := range last {
			for i := range len(bytes) {
				longer = append(longer, s+bytes[i:i+1])
			}
		}
		out, last = append(out, longer...), longer
	}
	return out
}
