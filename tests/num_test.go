package tests

import (
	"fmt"
	"math"
	"strings"
	"testing"

	"loop.example/g00465/impl"
)

func TestMaxInt(t *testing.T) {
	if impl.MaxInt != 1000000000000 {
		t.Errorf("MaxInt is %d", impl.MaxInt)
	}
}

func TestDigits(t *testing.T) {
	rows := []struct {
		n    int
		want string
	}{
		{0, "0"},
		{7, "7"},
		{-7, "-7"},
		{10, "10"},
		{-70, "-70"},
		{100200, "100200"},
		{impl.MaxInt, "1000000000000"},
		{-impl.MaxInt, "-1000000000000"},
		{impl.MaxInt + 1, "1000000000001"},
		{-impl.MaxInt - 1, "-1000000000001"},
		{math.MaxInt, "9223372036854775807"},
		{math.MinInt + 1, "-9223372036854775807"},
		{math.MinInt, "-9223372036854775808"},
	}
	for _, r := range rows {
		if got := impl.Digits(r.n); got != r.want {
			t.Errorf("Digits(%d) = %q, want %q", r.n, got, r.want)
		}
	}
}

func TestNumberReads(t *testing.T) {
	rows := []struct {
		s    string
		want int
	}{
		{"0", 0},
		{"1", 1},
		{"-1", -1},
		{"9", 9},
		{"10", 10},
		{"-120", -120},
		{"100200", 100200},
		{"999999999999", impl.MaxInt - 1},
		{"1000000000000", impl.MaxInt},
		{"-999999999999", -impl.MaxInt + 1},
		{"-1000000000000", -impl.MaxInt},
	}
	for _, r := range rows {
		if n, ok := impl.Number(r.s); n != r.want || !ok {
			t.Errorf("Number(%q) = %d, %v, want %d, true", r.s, n, ok, r.want)
		}
	}
}

func refuseNumber(t *testing.T, s string) {
	t.Helper()
	if n, ok := impl.Number(s); n != 0 || ok {
		t.Errorf("Number(%.40q) = %d, %v, want 0, false", s, n, ok)
	}
}

func TestNumberRefuses(t *testing.T) {
	rows := []string{
		"", "-", "--", "--1", "1-", "-0", "-00", "-01", "00", "01", "007",
		"+", "+0", "+1", "-+1", "+-1",
		" ", " 1", "1 ", "1 2", "- 1", "\t1", "1\n", "1\r", "\x001", "1\x00",
		"a", "1a", "a1", "0x10", "0b1", "0o7", "1e3", "1.0", "1.", ".1", "1_000", "1,000",
		"\u0661", "\uff11", "\u22121", "\xff", "1\x80",
		"true", "null", "Inf", "NaN",
		"1000000000001", "-1000000000001", "9999999999999", "10000000000000",
		"9223372036854775807", "-9223372036854775808",
		"9223372036854775808", "-9223372036854775809",
		"18446744073709551615", "18446744073709551616", "18446744073709551617",
		"-18446744073709551617", "340282366920938463463374607431768211457",
		strings.Repeat("9", 400), "-" + strings.Repeat("9", 400),
		strings.Repeat("0", 100000), strings.Repeat("0", 100000) + "1", "1" + strings.Repeat("0", 100000),
		strings.Repeat("-", 100000),
	}
	for _, s := range rows {
		refuseNumber(t, s)
	}
}

func TestNumberRefusesOtherBytes(t *testing.T) {
	for b := range 256 {
		c := string([]byte{byte(b)})
		if b >= '0' && b <= '9' {
			continue
		}
		refuseNumber(t, c)
		refuseNumber(t, "1"+c)
		refuseNumber(t, "1"+c+"2")
		if b != '-' {
			refuseNumber(t, c+"1")
		}
	}
}

// Every text of up to four of these bytes is held against what fmt tells of all numbers that it could be.
func TestNumberReadsOneTextANumber(t *testing.T) {
	known := map[string]int{}
	for n := -999; n <= 9999; n++ {
		known[fmt.Sprint(n)] = n
	}
	texts := []string{""}
	for range 5 {
		for _, s := range texts {
			want, in := known[s]
			if n, ok := impl.Number(s); n != want || ok != in {
				t.Fatalf("Number(%q) = %d, %v, want %d, %v", s, n, ok, want, in)
			}
		}
		texts = oneByteLonger(texts, "-+ 0159a_.")
	}
}

func oneByteLonger(texts []string, alphabet string) []string {
	var out []string
	for _, s := range texts {
		for _, c := range alphabet {
			out = append(out, s+string(c))
		}
	}
	return out
}

func roundTrip(t *testing.T, n int) {
	t.Helper()
	s := impl.Digits(n)
	if want := fmt.Sprint(n); s != want {
		t.Fatalf("Digits(%d) = %q, want %q", n, s, want)
	}
	got, ok := impl.Number(s)
	if n < -impl.MaxInt || n > impl.MaxInt {
		if got != 0 || ok {
			t.Fatalf("Number(%q) = %d, %v, want 0, false", s, got, ok)
		}
	} else if got != n || !ok {
		t.Fatalf("Number(%q) = %d, %v, want %d, true", s, got, ok, n)
	}
}

func TestDigitsAreThoseOfOneNumber(t *testing.T) {
	for n := -12000; n <= 12000; n++ {
		roundTrip(t, n)
	}
	for p := 1; p <= 100000000000000000; p *= 10 {
		for d := -2; d <= 2; d++ {
			roundTrip(t, p+d)
			roundTrip(t, -p+d)
			roundTrip(t, 9*p+d)
		}
	}
	for d := range 3 {
		roundTrip(t, math.MaxInt-d)
		roundTrip(t, math.MinInt+d)
	}
}

func TestCeilDiv(t *testing.T) {
	const most = impl.MaxInt
	rows := []struct{ a, b, want int }{
		{0, 1, 0},
		{0, 7, 0},
		{0, most, 0},
		{1, 1, 1},
		{1, 2, 1},
		{1, most, 1},
		{7, 2, 4},
		{8, 2, 4},
		{9, 2, 5},
		{2, 3, 1},
		{3, 3, 1},
		{4, 3, 2},
		{most, 1, most},
		{most, 2, most / 2},
		{most, 3, 333333333334},
		{most, most, 1},
		{most, most - 1, 2},
		{most - 1, most, 1},
		{most - 1, 2, 500000000000},
	}
	for _, r := range rows {
		if got := impl.CeilDiv(r.a, r.b); got != r.want {
			t.Errorf("CeilDiv(%d, %d) = %d, want %d", r.a, r.b, got, r.want)
		}
	}
}

func TestCeilDivIsTheLeast(t *testing.T) {
	for a := 0; a <= 300; a++ {
		for b := 1; b <= 310; b++ {
			q := impl.CeilDiv(a, b)
			if b*q < a || b*(q-1) >= a {
				t.Fatalf("CeilDiv(%d, %d) = %d is not the least", a, b, q)
			}
		}
	}
}

func TestCeilDivOutOfBounds(t *testing.T) {
	const most = impl.MaxInt
	rows := []struct{ a, b int }{
		{1, 0}, {0, 0}, {most, 0},
		{-1, 1}, {-1, -1}, {-7, 2}, {7, -2}, {1, -1}, {-1, 0}, {-most, 1},
		{most + 1, 1}, {most + 1, most}, {1, most + 1}, {most, most + 1}, {0, most + 1}, {most + 1, most + 1},
		{math.MaxInt, 1}, {math.MaxInt, math.MaxInt}, {1, math.MaxInt},
		{math.MinInt, 1}, {math.MinInt, -1}, {1, math.MinInt}, {math.MinInt, math.MinInt},
	}
	for _, r := range rows {
		if got := impl.CeilDiv(r.a, r.b); got != 0 {
			t.Errorf("CeilDiv(%d, %d) = %d, want 0", r.a, r.b, got)
		}
	}
}

func TestClamp(t *testing.T) {
	rows := []struct{ n, low, high, want int }{
		{2, 1, 3, 2},
		{0, 1, 3, 1},
		{1, 1, 3, 1},
		{3, 1, 3, 3},
		{4, 1, 3, 3},
		{5, 5, 5, 5},
		{4, 5, 5, 5},
		{6, 5, 5, 5},
		{0, -3, -1, -1},
		{-4, -3, -1, -3},
		{math.MinInt, math.MinInt, math.MaxInt, math.MinInt},
		{math.MaxInt, math.MinInt, math.MaxInt, math.MaxInt},
		{math.MinInt, -1, 1, -1},
		{math.MaxInt, -1, 1, 1},
	}
	for _, r := range rows {
		if got := impl.Clamp(r.n, r.low, r.high); got != r.want {
			t.Errorf("Clamp(%d, %d, %d) = %d, want %d", r.n, r.low, r.high, got, r.want)
		}
	}
}

func TestClampLowAboveHigh(t *testing.T) {
	rows := []struct{ n, low, high, want int }{
		{0, 3, 1, 3},
		{1, 3, 1, 3},
		{2, 3, 1, 3},
		{3, 3, 1, 1},
		{4, 3, 1, 1},
		{0, math.MaxInt, math.MinInt, math.MaxInt},
		{math.MaxInt, math.MaxInt, math.MinInt, math.MinInt},
		{math.MinInt, math.MaxInt, math.MinInt, math.MaxInt},
	}
	for _, r := range rows {
		if got := impl.Clamp(r.n, r.low, r.high); got != r.want {
			t.Errorf("Clamp(%d, %d, %d) = %d, want %d", r.n, r.low, r.high, got, r.want)
		}
	}
}
