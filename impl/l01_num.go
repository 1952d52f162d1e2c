package impl

import (
	"errors"
	"strconv"
)

const MaxInt = 1000000000000

var errNoNumber = errors.New("no number")

func Digits(n int) string { return strconv.Itoa(n) }

func Number(s string) (n int, ok bool) {
	defer func() {
		if recover() != nil {
			n, ok = 0, false
		}
	}()
	return mustNumber(s), true
}

// mustNumber panics at what is no number, as the document asks in its chapter Ways; Number recovers.
func mustNumber(s string) int {
	n, err := strconv.Atoi(s)
	if err != nil || n < -MaxInt || n > MaxInt {
		panic(errNoNumber)
	}
	// Atoi also takes "+1", "-0" and "01"; only one text may stand for a number.
	if Digits(n) != s {
		panic(errNoNumber)
	}
	return n
}

func CeilDiv(a int, b int) int {
	if a < 0 || a > MaxInt || b < 1 || b > MaxInt {
		return 0
	}
	return (a + b - 1) / b
}

// Clamp asks for low first, so that low counts where it is above high.
func Clamp(n int, low int, high int) int {
	if n < low {
		return low
	}
	if n > high {
		return high
	}
	return n
}
