package number_test

import (
	"math"
	"math/big"
	"strconv"
	"testing"

	"hoarding/api"
	"hoarding/number"
)

// numbers answers numbers that may be, those at the edges among them.
func numbers() []int {
	ns := []int{0, api.MaxNumber, -api.MaxNumber}
	for n := 1; n < api.MaxNumber; n *= 3 {
		ns = append(ns, n, -n, api.MaxNumber-n, n-api.MaxNumber)
	}
	for n := 10; n < api.MaxNumber; n *= 10 {
		ns = append(ns, n-1, n, n+1, 1-n, -n, -1-n)
	}
	for n := range 2000 {
		ns = append(ns, n-1000)
	}
	return ns
}

// strangers answers numbers that may not be.
func strangers() []int {
	ns := []int{math.MaxInt, math.MinInt, math.MaxInt - 1, math.MinInt + 1}
	for n := 1; n < 1<<62; n *= 7 {
		ns = append(ns, api.MaxNumber+n, -api.MaxNumber-n)
	}
	return ns
}

// P2.1: what may be.
func TestFits(t *testing.T) {
	for _, n := range numbers() {
		if !number.Fits(n) {
			t.Errorf("%d may be", n)
		}
	}
	for _, n := range strangers() {
		if number.Fits(n) {
			t.Errorf("%d may not be", n)
		}
	}
}

// P2.1: texts and how long they are.
func TestText(t *testing.T) {
	for _, n := range numbers() {
		want := strconv.Itoa(n)
		if s, e := number.Text(n); s != want || e != api.OK {
			t.Errorf("Text of %d: %q, %d", n, s, e)
		}
		if got := number.Len(n); got != len(want) {
			t.Errorf("Len of %d: %d", n, got)
		}
	}
	for _, n := range strangers() {
		if s, e := number.Text(n); s != "" || e != api.ErrNumber {
			t.Errorf("Text of %d: %q, %d", n, s, e)
		}
		if got := number.Len(n); got != 0 {
			t.Errorf("Len of %d: %d", n, got)
		}
	}
}

func TestTextWrittenOut(t *testing.T) {
	for n, want := range map[int]string{0: "0", 7: "7", -7: "-7", 10: "10", -10: "-10", 1 << 53: "9007199254740992", -1 << 53: "-9007199254740992"} {
		if s, e := number.Text(n); s != want || e != api.OK {
			t.Errorf("Text of %d: %q, %d", n, s, e)
		}
	}
}

// P2.1: every byte.
func TestDigit(t *testing.T) {
	for c := range 256 {
		if number.Digit(byte(c)) != (c >= 48 && c <= 57) {
			t.Errorf("the byte %d", c)
		}
	}
}

// bigText answers the text of MaxNumber and more.
func bigText(more int64) string {
	n := big.NewInt(api.MaxNumber)
	return n.Add(n, big.NewInt(more)).String()
}
