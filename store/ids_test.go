package store_test

import (
	"math"
	"regexp"
	"strconv"
	"strings"
	"testing"

	"hoarding/api"
	"hoarding/store"
)

// P10.1: Phys of numbers that have an id, and Number of those.
func TestPhys(t *testing.T) {
	ns := []int{most, most - 1, most / 2}
	for n := 1; n <= 3000; n++ {
		ns = append(ns, n, most-n)
	}
	for n := 1; n <= most; n *= 10 {
		ns = append(ns, n, n+1, max(n-1, 1))
	}
	for _, n := range ns {
		want := "p" + strconv.Itoa(n)
		if s, e := store.Phys(n); s != want || e != api.OK {
			t.Errorf("Phys of %d: %q, %d", n, s, e)
		}
		if got, ok := store.Number(want); got != n || !ok {
			t.Errorf("Number of %s: %d, %v", want, got, ok)
		}
	}
	for n, want := range map[int]string{1: "p1", 10: "p10", 1 << 40: "p1099511627776"} {
		if s, e := store.Phys(n); s != want || e != api.OK {
			t.Errorf("Phys of %d: %q, %d", n, s, e)
		}
	}
}

// P10.1: Phys of numbers that have none.
func TestPhysRefuses(t *testing.T) {
	ns := []int{0, -1, -2, -10, most + 1, most + 2, 2 * most, -most, 1 << 53, 1<<53 + 1, math.MaxInt, math.MinInt, math.MinInt + 1}
	for _, n := range ns {
		if s, e := store.Phys(n); s != "" || e != api.ErrArg {
			t.Errorf("Phys of %d: %q, %d", n, s, e)
		}
	}
}

// P10.1: Number, by the chapter's words: p and a number's text, of a number from 1 on that has an id, so of none above 2^40.
func TestNumber(t *testing.T) {
	for s, n := range map[string]int{
		"p1": 1, "p9": 9, "p10": 10, "p100": 100, "p1099511627775": most - 1, "p1099511627776": most,
	} {
		if got, ok := store.Number(s); got != n || !ok {
			t.Errorf("Number of %q: %d, %v", s, got, ok)
		}
	}
	for _, s := range []string{
		"", "p", "1", "10", "p0", "p00", "p01", "p010", "p-1", "p-0", "p+1", "p-", "P1", "q1", "pp1", "1p", " p1", "p 1", "p1 ", "p1\n", "p1x", "p1p", "p1.", "p1.0", "p1e", "p1E2", "p1,", "p1-", "p1\x00", "\x00p1", "p\u0661", "\u0440" + "1", "p1\xff",
		"p1099511627777", "p1099511627778", "p1099511627780", "p1099511627786", "p2099511627776", "p2199023255552", "p9999999999999", "p10995116277760", "p01099511627776", "p4503599627370496", "p9007199254740991", "p9007199254740992",
		"p9007199254740993", "p9007199254741000", "p9223372036854775807", "p9223372036854775808", "p18446744073709551617", "p99999999999999999999", "p1" + strings.Repeat("0", 100), "p" + strings.Repeat("9", 100000), "p" + strings.Repeat("0", 100) + "1",
	} {
		if got, ok := store.Number(s); got != 0 || ok {
			t.Errorf("Number of %.40q: %d, %v", s, got, ok)
		}
	}
}

var shape = regexp.MustCompile(`^p[1-9][0-9]*$`)

// P10.1: Number of all texts of up to five of a few bytes, read once more by their shape alone.
func TestNumberAll(t *testing.T) {
	const bytes = "p019-+. x"
	texts := []string{""}
	for at := 0; at < len(texts); at++ {
		s := texts[at]
		n, ok := store.Number(s)
		if ok != shape.MatchString(s) {
			t.Errorf("Number of %q: %d, %v", s, n, ok)
		}
		if ok && s != "p"+strconv.Itoa(n) || !ok && n != 0 {
			t.Errorf("Number of %q: %d, %v", s, n, ok)
		}
		for i := 0; i < len(bytes) && len(s) < 5; i++ {
			texts = append(texts, s+bytes[i:i+1])
		}
	}
}

// P10.1: p and n's digits are an id just where Phys answers them, and n's then: around each power of two, and around the greatest number that has one.
func TestNumberOfPhys(t *testing.T) {
	var ns []int
	for bit := range 63 {
		for off := -3; off <= 3; off++ {
			ns = append(ns, 1<<bit+off, -(1<<bit + off))
		}
	}
	for off := -2000; off <= 2000; off++ {
		ns = append(ns, most+off)
	}
	for _, n := range ns {
		s := "p" + strconv.Itoa(n)
		phys, e := store.Phys(n)
		got, ok := store.Number(s)
		if has := n >= 1 && n <= most; ok != has || (e == api.OK) != has {
			t.Errorf("Number of %s: %d, %v; Phys of it: %q, %d", s, got, ok, phys, e)
		}
		if ok && (got != n || phys != s) || !ok && got != 0 {
			t.Errorf("Number of %s: %d, %v; Phys of it: %q, %d", s, got, ok, phys, e)
		}
	}
}
