package tests

import (
	"fmt"
	"slices"
	"strings"
	"testing"

	"loop.example/g00465/impl"
)

func TestUnbracedReads(t *testing.T) {
	rows := []struct {
		s    string
		want node
	}{
		{"null", node{}},
		{"false", flagNode(0)},
		{"true", flagNode(1)},
		{"0", intNode(0)},
		{"-0", intNode(0)},
		{"7", intNode(7)},
		{"-7", intNode(-7)},
		{"10", intNode(10)},
		{"100200", intNode(100200)},
		{"999999999999", intNode(impl.MaxInt - 1)},
		{"1000000000000", intNode(impl.MaxInt)},
		{"-1000000000000", intNode(-impl.MaxInt)},
		{`""`, textNode("")},
		{`"a"`, textNode("a")},
		{`" "`, textNode(" ")},
		{`"  a  "`, textNode("  a  ")},
		{`"~"`, textNode("~")},
		{`"\""`, textNode(`"`)},
		{`"\\"`, textNode(`\`)},
		{`"\/"`, textNode(`/`)},
		{`"/"`, textNode(`/`)},
		{`"\\n"`, textNode(`\n`)},
		{`"\\\\\""`, textNode(`\\"`)},
		{`"\/\/\"\\/"`, textNode(`//"\/`)},
		{`"[1,{}]:null"`, textNode("[1,{}]:null")},
		{"[]", listNode()},
		{"[null]", listNode(node{})},
		{"[[],{}]", listNode(listNode(), mapNode(nil))},
		{`[1,-2,"3",true,false,null]`, listNode(intNode(1), intNode(-2), textNode("3"), flagNode(1), flagNode(0), node{})},
		{"[0,0,-0]", listNode(intNode(0), intNode(0), intNode(0))},
		{"{}", mapNode(nil)},
		{`{"":null}`, mapNode([]string{""}, node{})},
		{`{"a":1,"b":2}`, mapNode([]string{"a", "b"}, intNode(1), intNode(2))},
		{`{"b":2,"a":1}`, mapNode([]string{"a", "b"}, intNode(1), intNode(2))},
		{`{"c":3,"a":1,"d":4,"b":2}`, mapNode([]string{"a", "b", "c", "d"}, intNode(1), intNode(2), intNode(3), intNode(4))},
		{`{"a":1,"A":2,"":3,"aa":4}`, mapNode([]string{"", "A", "a", "aa"}, intNode(3), intNode(2), intNode(1), intNode(4))},
		{`{"9":1,"10":2}`, mapNode([]string{"10", "9"}, intNode(2), intNode(1))},
		{`{"\\":1,"\/":2,"\"":3}`, mapNode([]string{`"`, `/`, `\`}, intNode(3), intNode(2), intNode(1))},
		{`{"b":{"b":{"b":1},"a":2},"a":{"b":3,"a":4}}`, mapNode([]string{"a", "b"}, mapNode([]string{"a", "b"}, intNode(4), intNode(3)), mapNode([]string{"a", "b"}, intNode(2), mapNode([]string{"b"}, intNode(1))))},
		{`[{"a":1},{"a":1}]`, listNode(mapNode([]string{"a"}, intNode(1)), mapNode([]string{"a"}, intNode(1)))},
		{`{"a":{"a":{"a":"a"}}}`, mapNode([]string{"a"}, mapNode([]string{"a"}, mapNode([]string{"a"}, textNode("a"))))},
		{`{"a":[],"b":[[]]}`, mapNode([]string{"a", "b"}, listNode(), listNode(listNode()))},
	}
	for _, r := range rows {
		wantRead(t, r.s, r.want)
		for _, blank := range []string{" ", "\t", "\n", "\r", "  ", " \t\n\r", "\r\n"} {
			wantRead(t, blank+r.s, r.want)
			wantRead(t, r.s+blank, r.want)
			wantRead(t, blank+r.s+blank, r.want)
		}
	}
}

// Every text is cut behind each of its bytes: it ends too soon there, and nowhere earlier.
func TestUnbracedEndsTooSoon(t *testing.T) {
	wantPlace(t, "", 0)
	for _, blanks := range []string{" ", "\t", "\n", "\r", "   ", " \t\n\r "} {
		wantPlace(t, blanks, len(blanks))
	}
	for _, s := range []string{
		"null", "true", "false", `""`, `"ab c"`, `"\"\\\/"`, "[]", "{}", "[ ]", "{ }", "[1]", "[-12]", "[-0]",
		"[null,true,false]", `["a", "b"]`, "[[[]],[{}]]",
		`{"a":1}`, `{"a\"":[1,{"b" : null}], "c":"d" }`, " {\t\"a\"\n:\r-1 , \"b\" : [ true ] }", `{"a":{"a":{"a":0}}}`,
	} {
		for n := range len(s) {
			wantPlace(t, s[:n], n)
		}
		if _, place := impl.Unbraced(s); place != -1 {
			t.Errorf("Unbraced(%q) answers the place %d", s, place)
		}
	}
	wantPlace(t, "-", 1)
	wantPlace(t, " -", 2)
	wantPlace(t, "[1,-", 4)
}

func TestUnbracedFirstThatDoesNotFit(t *testing.T) {
	rows := []struct {
		s    string
		want int
	}{
		{"01", 1}, {"00", 1}, {"-01", 2}, {"-00", 2}, {"[01]", 2}, {"[0,00]", 4}, {`{"a":01}`, 6}, {"0 1", 2},
		{"--1", 1}, {"- 1", 1}, {"-a", 1}, {"-\"", 1}, {"[-]", 2}, {"[-,1]", 2}, {"+1", 0}, {"1-", 1}, {"1-2", 1}, {"1.0", 1}, {"1e3", 1}, {"1E3", 1}, {".5", 0}, {"0x1", 1}, {"1_0", 1}, {"1a", 1},
		{"x", 0}, {"nul", 3}, {"nulL", 3}, {"nule", 3}, {"nnull", 1}, {"nullx", 4}, {"null null", 5}, {"nullnull", 4}, {"Null", 0}, {"NULL", 0}, {"n ull", 1},
		{"tru", 3}, {"trux", 3}, {"True", 0}, {"truefalse", 4}, {"tr\"", 2}, {"falsx", 4}, {"fa", 2}, {"fAlse", 1}, {"falsee", 5}, {"[nil]", 2}, {"[tree]", 3}, {"None", 0}, {"undefined", 0}, {"[nan]", 2},
		{"a", 0}, {"'a'", 0}, {"#", 0}, {"// 1", 0}, {"- 1\n", 1},
		{"1 2", 2}, {"1,2", 1}, {"1,", 1}, {"[] []", 3}, {"[]]", 2}, {"{}}", 2}, {"{}1", 2}, {`"a""b"`, 3}, {`"a"b`, 3}, {"[1]x", 3}, {"[1] \n x", 6}, {"null,", 4}, {"null:", 4}, {`"a":1`, 3}, {`{"a":1}:`, 7},
		{"]", 0}, {"}", 0}, {",", 0}, {":", 0}, {"[}", 1}, {"{]", 1}, {"[[]}", 3}, {`{"a":1]`, 6}, {"[1}", 2}, {"[)", 1}, {"(1)", 0},
		{"[1,]", 3}, {"[1, ]", 4}, {"[,]", 1}, {"[,1]", 1}, {"[1,,2]", 3}, {"[ , ]", 2}, {"[1 2]", 3}, {"[1\t2]", 3}, {`["a""b"]`, 4}, {"[[][]]", 3}, {"[{}{}]", 3}, {"[null null]", 6}, {"[1:2]", 2}, {"[1;2]", 2}, {`["a":1]`, 4},
		{`{"a":1,}`, 7}, {`{"a":1 , }`, 9}, {"{,}", 1}, {`{,"a":1}`, 1}, {`{"a":1,,"b":2}`, 7}, {`{"a":1 "b":2}`, 7}, {`{"a":1"b":2}`, 6}, {`{"a" 1}`, 5}, {`{"a"1}`, 4}, {`{"a",1}`, 4}, {`{"a"}`, 4}, {`{"a":}`, 5}, {`{"a": }`, 6}, {`{"a":,"b":1}`, 5}, {`{"a"::1}`, 5}, {`{"a":1:2}`, 6}, {`{"a"=1}`, 4}, {`{:1}`, 1}, {`{"a":1,:2}`, 7}, {`{"a":1;"b":2}`, 6},
		{"{a:1}", 1}, {"{1:2}", 1}, {"{null:1}", 1}, {"{true:1}", 1}, {"{[]:1}", 1}, {"{{}:1}", 1}, {"{-1:1}", 1}, {"{'a':1}", 1}, {`{"a":1,2:3}`, 7}, {`{"a":1, b:3}`, 8}, {`{"a":1,{}}`, 7}, {`[{"a":[{1}]}]`, 8},
		{`"\n"`, 2}, {`"\t"`, 2}, {`"\u0041"`, 2}, {`"\b"`, 2}, {`"\'"`, 2}, {`"\ "`, 2}, {`"\0"`, 2}, {`"ab\x"`, 4}, {`"\\\n"`, 4}, {"\"\\\n\"", 2}, {"\"\\\x7f\"", 2}, {"\"\\\x00\"", 2}, {`"\`, 2}, {`"\"`, 3}, {`{"\n":1}`, 3}, {`{"a":"\r"}`, 7},
		{"\"\n\"", 1}, {"\"a\tb\"", 2}, {"\"\r", 1}, {"\"a\x00\"", 2}, {"\"\u00e9\"", 1}, {"\"ab\xff\"", 3}, {"{\"a\n\":1}", 3}, {"{\"\t\":1}", 2},
		{"\x00", 0}, {"1\x00", 1}, {" \x00 ", 1}, {"[\x00]", 1}, {"[1\x00]", 2}, {"{\x00}", 1}, {"nul\x00", 3}, {"\v1", 0}, {"\f1", 0}, {"1\v", 1}, {"1\f", 1}, {"\u00a01", 0}, {"\ufeff1", 0}, {"1\u2028", 1}, {"[1,\v2]", 3}, {"\b", 0}, {"\x1f1", 0}, {"!", 0},
	}
	for _, r := range rows {
		wantPlace(t, r.s, r.want)
		// What stands behind the first byte that does not fit changes nothing, and what stands ahead of all moves it.
		if r.want < len(r.s) {
			for _, more := range []string{"]", "}", "\"", ",", "\x00", `{"a":1,"a":2}`, strings.Repeat("[", impl.MaxBytes)} {
				wantPlace(t, r.s[:r.want+1]+more, r.want)
			}
		}
		wantPlace(t, " \t\n\r"+r.s, r.want+4)
		held(t, "[[],"+r.s)
		held(t, `{"k":`+r.s)
	}
}

func TestUnbracedEachByteOfATextFits(t *testing.T) {
	for b := range 256 {
		c := string([]byte{byte(b)})
		s, key := `"x`+c+`y"`, `{"x`+c+`y":1}`
		switch {
		case c == `"`:
			wantPlace(t, s, 3)
			wantPlace(t, key, 4)
		case c == `\`:
			wantPlace(t, s, 3)
			wantPlace(t, key, 4)
		case b < 32 || b > 126:
			wantPlace(t, s, 2)
			wantPlace(t, key, 3)
		default:
			wantRead(t, s, textNode("x"+c+"y"))
			wantRead(t, key, mapNode([]string{"x" + c + "y"}, intNode(1)))
		}
		escaped := `"x\` + c + `y"`
		if c == `"` || c == `\` || c == `/` {
			wantRead(t, escaped, textNode("x"+c+"y"))
		} else {
			wantPlace(t, escaped, 3)
		}
	}
}

func TestUnbracedEachByteAboutAValue(t *testing.T) {
	for b := range 256 {
		c := string([]byte{byte(b)})
		if slices.Contains([]int{32, 9, 10, 13}, b) {
			wantRead(t, c+"true"+c, flagNode(1))
			wantRead(t, "["+c+"true"+c+"]"+c, listNode(flagNode(1)))
			wantRead(t, c+"{"+c+`"a"`+c+":"+c+"1"+c+","+c+`"b"`+c+":"+c+"[]"+c+"}"+c, mapNode([]string{"a", "b"}, intNode(1), listNode()))
			continue
		}
		wantPlace(t, "true"+c, 4)
		if c != "," && c != "]" {
			wantPlace(t, "[true"+c, 5)
		}
		if !strings.Contains(`[{"-0123456789tfn`, c) {
			wantPlace(t, c+"true", 0)
			wantPlace(t, "[1,"+c+"true]", 3)
			wantPlace(t, `{"a":`+c+"true}", 5)
		}
		if c != `"` {
			wantPlace(t, `{"a":1,`+c, 7)
		}
		if c != ":" {
			wantPlace(t, `{"a"`+c, 4)
		}
	}
}

func TestUnbracedAlikeKeys(t *testing.T) {
	long := strings.Repeat("k", impl.MaxText+1)
	rows := []struct {
		s    string
		want int
	}{
		{`{"a":1,"a":2}`, 7},
		{`{"a":1,"a":1}`, 7},
		{`{"":1,"":2}`, 6},
		{` { "a" : 1 , "a" : 2 } `, 13},
		{`{"a":1,"b":2,"a":3}`, 13},
		{`{"a":1,"b":2,"b":3}`, 13},
		{`{"b":1,"a":2,"b":3}`, 13},
		{`{"a":1,"a":2,"a":3}`, 7},
		{`{"a":1,"b":2,"b":3,"a":4}`, 13},
		{`{"a":1,"b":2,"a":3,"b":4}`, 13},
		{`{"/":1,"\/":2}`, 7},
		{`{"\/":1,"/":2}`, 8},
		{`{"\"":1,"\"":2}`, 8},
		{`{"\\":1,"\\":2}`, 8},
		{`{"a":{"a":1,"a":2}}`, 12},
		{`[{"a":1},{"a":1,"a":2}]`, 16},
		{`{"a":{"b":1},"b":{"c":1,"c":2}}`, 24},
		{`{"a":{"x":1,"x":2},"a":3}`, 12},
		{`{"a":1,"a":{"x":1,"x":2}}`, 7},
		{`{"a":1,"b":{"x":1,"x":2},"a":3}`, 18},
		{`{"a":[{"a":1}],"b":null,"a":null}`, 24},
		{`{"` + long + `":1,"` + long + `":2}`, len(long) + 6},
	}
	for _, r := range rows {
		wantPlace(t, r.s, r.want)
	}
	for _, s := range []string{`{"a":1,"A":2}`, `{"a":1,"a ":2," a":3}`, `{"a":1,"":2}`, `{"a":{"a":1},"b":{"a":1}}`, `{"\\":1,"/":2}`, `["a","a"]`} {
		if got, place := impl.Unbraced(s); place != -1 {
			t.Errorf("Unbraced(%q) = %s, %d, though no two Keys are alike", s, brief(got), place)
		}
	}
}

// Of several reasons that named first counts, over the whole text: a byte that does not fit, then an alike Key, then a limit.
func TestUnbracedFirstReasonCounts(t *testing.T) {
	alike, blanks := `{"a":1,"a":2}`, strings.Repeat(" ", impl.MaxBytes)
	deep, shut := strings.Repeat("[", impl.MaxDeep), strings.Repeat("]", impl.MaxDeep)
	rows := []struct {
		s    string
		want int
	}{
		{alike[:12], 12},
		{alike[:11], 11},
		{alike[:10], 10},
		{alike + "x", 13},
		{`{"a":1,"a":2,}`, 13},
		{`{"a":1,"a":01}`, 12},
		{"[" + alike + ",]", 15},
		{"[" + alike + ",1000000000001,nul]", 32},
		{deep + "1", impl.MaxDeep + 1},
		{deep + "1" + shut, 0},
		{deep + "1" + shut + "]", 2*impl.MaxDeep + 1},
		{deep + "1," + shut, impl.MaxDeep + 2},
		{deep + alike + shut, impl.MaxDeep + 7},
		{"[" + alike + ",1000000000001]", 8},
		{"[1000000000001," + alike + "]", 22},
		{"1000000000001", 0},
		{"[1000000000001", 14},
		{"1000000000001x", 13},
		{"\"" + strings.Repeat("x", impl.MaxText+1), impl.MaxText + 2},
		{"\"" + strings.Repeat("x", impl.MaxText+1) + "\n", impl.MaxText + 2},
		{blanks + "1", 0},
		{blanks + " ", impl.MaxBytes + 1},
		{blanks + "x", impl.MaxBytes},
		{"x" + blanks, 0},
		{"1x" + blanks, 1},
		{"1" + blanks + "x", impl.MaxBytes + 1},
		{blanks + alike, impl.MaxBytes + 7},
		{alike + blanks, 7},
		{alike + blanks + ",", impl.MaxBytes + 13},
		{"[" + strings.Repeat("1,", impl.MaxBytes) + "1]", 0},
		{"[" + strings.Repeat("1,", impl.MaxBytes) + "]", 2*impl.MaxBytes + 1},
	}
	for _, r := range rows {
		wantPlace(t, r.s, r.want)
	}
}

func TestUnbracedInts(t *testing.T) {
	for _, n := range []int{0, 1, 9, 10, 11, 99, 100, 123456789, impl.MaxInt - 1, impl.MaxInt} {
		for _, s := range []string{fmt.Sprint(n), fmt.Sprint(-n)} {
			want := n
			if s[0] == '-' {
				want = -n
			}
			wantRead(t, s, intNode(want))
			wantRead(t, "["+s+"]", listNode(intNode(want)))
			wantRead(t, `{"k":`+s+"}", mapNode([]string{"k"}, intNode(want)))
		}
	}
	for _, s := range []string{
		"1000000000001", "1000000000009", "1000000000010", "2000000000000", "9999999999999", "10000000000000",
		"9223372036854775807", "9223372036854775808", "18446744073709551615", "18446744073709551616", "18446744073709551617",
		"184467440737095516160", "340282366920938463463374607431768211456", "1" + strings.Repeat("0", 64), "1" + strings.Repeat("0", 5000), strings.Repeat("9", 100000),
	} {
		for _, in := range []string{s, "-" + s, "[" + s + "]", "[1,-" + s + "]", `{"a":` + s + "}"} {
			wantPlace(t, in, 0)
		}
	}
}
