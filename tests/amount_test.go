package tests

import (
	"fmt"
	"math"
	"strings"
	"testing"

	"loop.example/g00465/impl"
)

const mostSeconds = 1000000

func TestAmountText(t *testing.T) {
	rows := []struct {
		n    int
		want string
	}{
		{0, "0"},
		{1, "1m"},
		{7, "7m"},
		{500, "500m"},
		{999, "999m"},
		{1000, "1"},
		{1001, "1001m"},
		{2000, "2"},
		{2500, "2500m"},
		{10000, "10"},
		{999000, "999"},
		{999999, "999999m"},
		{1000000, "1k"},
		{1000001, "1000001m"},
		{1001000, "1001"},
		{1024000, "1024"},
		{1500000, "1500"},
		{2000000, "2k"},
		{1024000000, "1024k"},
		{impl.MaxInt - 1000000, "999999k"},
		{impl.MaxInt - 1000, "999999999"},
		{impl.MaxInt - 1, "999999999999m"},
		{impl.MaxInt, "1000000k"},
		{impl.MaxInt + 1, ""},
		{impl.MaxInt + 1000, ""},
		{impl.MaxInt + 1000000, ""},
		{-1, ""},
		{-1000, ""},
		{-1000000, ""},
		{-impl.MaxInt, ""},
		{math.MaxInt, ""},
		{math.MinInt, ""},
	}
	for _, r := range rows {
		if got := impl.AmountText(r.n); got != r.want {
			t.Errorf("AmountText(%d) = %q, want %q", r.n, got, r.want)
		}
	}
}

func TestAmountOfReads(t *testing.T) {
	rows := []struct {
		s    string
		want int
	}{
		{"0", 0},
		{"0m", 0},
		{"0k", 0},
		{"0Ki", 0},
		{"1", 1000},
		{"1m", 1},
		{"1k", 1000000},
		{"1Ki", 1024000},
		{"20", 20000},
		{"250m", 250},
		{"1000m", 1000},
		{"1500m", 1500},
		{"1000000m", 1000000},
		{"1000", 1000000},
		{"12k", 12000000},
		{"3Ki", 3072000},
		{"999999999999m", impl.MaxInt - 1},
		{"1000000000000m", impl.MaxInt},
		{"999999999", impl.MaxInt - 1000},
		{"1000000000", impl.MaxInt},
		{"999999k", impl.MaxInt - 1000000},
		{"1000000k", impl.MaxInt},
		{"976561Ki", 976561 * 1024000},
		{"976562Ki", 999999488000},
	}
	for _, r := range rows {
		if n, ok := impl.AmountOf(r.s); n != r.want || !ok {
			t.Errorf("AmountOf(%q) = %d, %v, want %d, true", r.s, n, ok, r.want)
		}
	}
}

func refuseAmount(t *testing.T, s string) {
	t.Helper()
	if n, ok := impl.AmountOf(s); n != 0 || ok {
		t.Errorf("AmountOf(%.40q) = %d, %v, want 0, false", s, n, ok)
	}
}

func refuseSpan(t *testing.T, s string) {
	t.Helper()
	if n, ok := impl.SpanOf(s); n != 0 || ok {
		t.Errorf("SpanOf(%.40q) = %d, %v, want 0, false", s, n, ok)
	}
}

// What is neither an amount nor a span, whatever the digits and ends.
func wrongMeasures() []string {
	return []string{
		"", "m", "k", "Ki", "K", "i", "h", "s", "-", "+", " ", "\x00",
		"-1", "-0", "-1m", "-0m", "-5k", "-2Ki", "-1s", "-1h", "-1000000000000m", "--1m",
		"+1", "+1m", "+0m", "+1s",
		"00", "01", "00m", "01m", "01k", "01Ki", "007s", "01h", "00s",
		"1M", "1H", "1S", "1KI", "1ki", "1kI", "1G", "1Mi", "1Gi", "1K", "1i", "1iK", "1u", "1n", "1d", "1w", "1ms", "1min", "1 ", "1b", "1B",
		"1mm", "1kk", "1mk", "1km", "1KiKi", "1Kim", "1mKi", "1Ki ", "1Kii", "1hs", "1hm", "1h1m", "1m1s", "1m2", "1k2", "1mh", "1ss", "1sm",
		" 1", " 1m", "1 m", "1m ", "1 k", "1k ", "1 Ki", "1K i", " 1s", "1 s", "1s ", "1\t", "1m\n", "1s\n", "1h\r", "\n1m",
		"1.5", "1.5k", "1.0", ".5", "1.", "1e3", "0x1", "1_0", "1_0m", "1,0s", "0x1m", "1e3m", "1e3s",
		"1\x00", "1m\x00", "1k\x00", "1\x00\x00", "1\x00m", "1Ki\x00", "1K\x00", "1s\x00", "1h\x00", "1\x00s", "\x001m", "\x00m",
		"1\xff", "1m\xff", "1k\xff", "1K\xff", "1\xff\xff", "1\xffm", "\xff1m", "1s\x80", "1\xc3s", "m\xff", "1\xed\xa0\x80", "1m\xf4\x90\x80\x80",
		"1\ufffd", "1m\ufffd", "1\ufffdm", "1s\ufffd",
		"\u0661m", "\uff11m", "1\uff4d", "1\u212ai", "1\u212a", "1\u017f", "1\u00b5", "1m\u0301", "1s\u200b", "\ufeff1m", "\u22121m",
		"1\U0001f600", "1m\U0001f600",
		"m1", "k1", "Ki1", "s1", "h1", "true", "null", "NaN", "Inf",
		"1000000000001m", "1000000000001s", "1000000000001k", "1000000000001h", "1000000000001Ki", "1000000000001",
		"9223372036854775807m", "9223372036854775807s", "9223372036854775808m", "9223372036854775809s",
		"18446744073709551616m", "18446744073709551617s", "18446744073709551616", "18446744073709551617h", "18446744073709551617k", "18446744073709551617Ki",
		"18014398509481984Ki", "9007199254740992Ki", "18446744073710k", "288230376151711744m",
		strings.Repeat("9", 100000), strings.Repeat("9", 100000) + "m", strings.Repeat("9", 100000) + "s",
		strings.Repeat("0", 100000), strings.Repeat("0", 100000) + "m", strings.Repeat("0", 100000) + "1s",
		"1" + strings.Repeat("m", 100000), "1" + strings.Repeat("s", 100000), strings.Repeat("m", 100000), "1" + strings.Repeat("\x00", 100000),
		strings.Repeat("1m", 100000), strings.Repeat(" ", 100000) + "1m", "1m" + strings.Repeat(" ", 100000), strings.Repeat("\xff", 100000),
	}
}

func TestMeasuresRefuse(t *testing.T) {
	for _, s := range wrongMeasures() {
		refuseAmount(t, s)
		refuseSpan(t, s)
	}
}

func TestAmountOfRefuses(t *testing.T) {
	for _, s := range []string{
		"1h", "1s", "0h", "0s", "60s",
		"1000000000001m", "1000000001", "1000001k", "976563Ki",
		"1000000000000", "1000000000000k", "1000000000000Ki", "9999999999", "9999999k", "9999999Ki",
	} {
		refuseAmount(t, s)
	}
}

func TestSpanText(t *testing.T) {
	rows := []struct {
		n    int
		want string
	}{
		{0, "0s"},
		{1, "1s"},
		{59, "59s"},
		{60, "1m"},
		{61, "61s"},
		{90, "90s"},
		{119, "119s"},
		{120, "2m"},
		{3540, "59m"},
		{3599, "3599s"},
		{3600, "1h"},
		{3601, "3601s"},
		{3660, "61m"},
		{5400, "90m"},
		{7200, "2h"},
		{86400, "24h"},
		{36000, "10h"},
		{997200, "277h"},
		{999960, "16666m"},
		{999999, "999999s"},
		{mostSeconds, "1000000s"},
		{mostSeconds + 1, ""},
		{mostSeconds + 20, ""},
		{1000800, ""},
		{-1, ""},
		{-60, ""},
		{-3600, ""},
		{impl.MaxInt, ""},
		{math.MaxInt, ""},
		{math.MinInt, ""},
	}
	for _, r := range rows {
		if got := impl.SpanText(r.n); got != r.want {
			t.Errorf("SpanText(%d) = %q, want %q", r.n, got, r.want)
		}
	}
}

func TestSpanOfReads(t *testing.T) {
	rows := []struct {
		s    string
		want int
	}{
		{"0s", 0},
		{"0m", 0},
		{"0h", 0},
		{"1s", 1},
		{"1m", 60},
		{"1h", 3600},
		{"60s", 60},
		{"60m", 3600},
		{"90s", 90},
		{"90m", 5400},
		{"3600s", 3600},
		{"24h", 86400},
		{"277h", 997200},
		{"16665m", 999900},
		{"16666m", 999960},
		{"999999s", 999999},
		{"1000000s", mostSeconds},
	}
	for _, r := range rows {
		if n, ok := impl.SpanOf(r.s); n != r.want || !ok {
			t.Errorf("SpanOf(%q) = %d, %v, want %d, true", r.s, n, ok, r.want)
		}
	}
}

func TestSpanOfRefuses(t *testing.T) {
	for _, s := range []string{
		"0", "1", "5", "60", "1000000", "1k", "1Ki", "0k", "0Ki",
		"1000001s", "16667m", "278h",
		"1000000000000s", "1000000000000m", "1000000000000h", "1000000m", "1000000h",
	} {
		refuseSpan(t, s)
	}
}

func TestMeasuresRefuseOtherBytes(t *testing.T) {
	for b := range 256 {
		c := string([]byte{byte(b)})
		digit := b >= '0' && b <= '9'
		if !digit && b != 'm' && b != 'k' {
			refuseAmount(t, "1"+c)
		}
		if !digit && b != 'm' && b != 's' && b != 'h' {
			refuseSpan(t, "1"+c)
		}
		if b != 'i' {
			refuseAmount(t, "1K"+c)
		}
		for _, end := range []string{"m", "k", "Ki", "s", "h"} {
			refuseAmount(t, "1"+end+c)
			refuseSpan(t, "1"+end+c)
			if !digit {
				refuseAmount(t, c+end)
				refuseSpan(t, c+end)
				refuseAmount(t, c+"1"+end)
				refuseSpan(t, c+"1"+end)
				refuseAmount(t, "1"+c+"1"+end)
				refuseSpan(t, "1"+c+"1"+end)
			}
		}
	}
}

// Every text of up to four of these bytes is held against all that could be told by a number and an end.
func TestMeasuresReadOneWayEach(t *testing.T) {
	amounts, spans := map[string]int{}, map[string]int{}
	for n := range 10000 {
		s := fmt.Sprint(n)
		amounts[s], amounts[s+"m"], amounts[s+"k"], amounts[s+"Ki"] = 1000*n, n, 1000000*n, 1024000*n
		spans[s+"s"] = n
		if n <= 999 {
			spans[s+"m"] = 60 * n
		}
		if n <= 277 {
			spans[s+"h"] = 3600 * n
		}
	}
	texts := []string{""}
	for range 5 {
		for _, s := range texts {
			want, in := amounts[s]
			if n, ok := impl.AmountOf(s); n != want || ok != in {
				t.Fatalf("AmountOf(%q) = %d, %v, want %d, %v", s, n, ok, want, in)
			}
			want, in = spans[s]
			if n, ok := impl.SpanOf(s); n != want || ok != in {
				t.Fatalf("SpanOf(%q) = %d, %v, want %d, %v", s, n, ok, want, in)
			}
		}
		texts = oneByteLonger(texts, "-+ 0129mkKihs\x00")
	}
}

func amountRoundTrip(t *testing.T, n int) {
	t.Helper()
	s := impl.AmountText(n)
	if n < 0 || n > impl.MaxInt {
		if s != "" {
			t.Fatalf("AmountText(%d) = %q, want it empty", n, s)
		}
		return
	}
	if got, ok := impl.AmountOf(s); got != n || !ok {
		t.Fatalf("AmountOf(AmountText(%d) = %q) = %d, %v", n, s, got, ok)
	}
}

func TestAmountsAreReadAsTheyWereTold(t *testing.T) {
	for n := -2000; n <= 30000; n++ {
		amountRoundTrip(t, n)
	}
	for p := 1; p <= impl.MaxInt; p *= 10 {
		for d := -3; d <= 3; d++ {
			for k := 1; k <= 9; k++ {
				amountRoundTrip(t, k*p+d)
				amountRoundTrip(t, k*p+1000*d)
				amountRoundTrip(t, k*p+1000000*d)
				amountRoundTrip(t, k*p+1024000*d)
			}
		}
	}
}

func TestSpansAreReadAsTheyWereTold(t *testing.T) {
	for n := -100; n <= mostSeconds+100; n++ {
		s := impl.SpanText(n)
		if n < 0 || n > mostSeconds {
			if s != "" {
				t.Fatalf("SpanText(%d) = %q, want it empty", n, s)
			}
			continue
		}
		if got, ok := impl.SpanOf(s); got != n || !ok {
			t.Fatalf("SpanOf(SpanText(%d) = %q) = %d, %v", n, s, got, ok)
		}
	}
}
