package number_test

import (
	"math/big"
	"regexp"
	"strings"
	"testing"

	"hoarding/api"
	"hoarding/number"
)

type scanned struct {
	n, end int
	e      api.Errno
}

func scan(s string, at int) scanned {
	n, end, e := number.Scan(s, at)
	return scanned{n, end, e}
}

func bad(place int) scanned { return scanned{0, place, api.ErrNumber} }

// P2.2: a table of texts, with what stands behind the number and ahead of it.
func TestScan(t *testing.T) {
	for _, c := range []struct {
		s    string
		at   int
		want scanned
	}{
		{"-12,", 0, scanned{-12, 3, 0}},
		{"0", 0, scanned{0, 1, 0}},
		{"0,", 0, scanned{0, 1, 0}},
		{"0-", 0, scanned{0, 1, 0}},
		{"5-3", 0, scanned{5, 1, 0}},
		{"5-3", 1, scanned{-3, 3, 0}},
		{"5 ", 0, scanned{5, 1, 0}},
		{"5x", 0, scanned{5, 1, 0}},
		{"5+", 0, scanned{5, 1, 0}},
		{"5/5:", 0, scanned{5, 1, 0}},
		{"5:", 0, scanned{5, 1, 0}},
		{"5\xff", 0, scanned{5, 1, 0}},
		{"5\u0661", 0, scanned{5, 1, 0}},
		{"5f", 0, scanned{5, 1, 0}},
		{"5 .e", 0, scanned{5, 1, 0}},
		{"[10,-20]", 1, scanned{10, 3, 0}},
		{"[10,-20]", 4, scanned{-20, 7, 0}},
		{"[10,-20]", 5, scanned{20, 7, 0}},
		{"10", 1, scanned{0, 2, 0}},
		{"1.5", 2, scanned{5, 3, 0}},
		{"100", 0, scanned{100, 3, 0}},
		// No digit there.
		{"", 0, bad(0)},
		{"-", 0, bad(1)},
		{"-", 1, bad(1)},
		{"12", 2, bad(2)},
		{"a", 0, bad(0)},
		{"--5", 0, bad(1)},
		{"+5", 0, bad(0)},
		{"-a5", 0, bad(1)},
		{" 5", 0, bad(0)},
		{"- 5", 0, bad(1)},
		{".5", 0, bad(0)},
		{"-.5", 0, bad(1)},
		{"e5", 0, bad(0)},
		{"/", 0, bad(0)},
		{":", 0, bad(0)},
		{"x-", 1, bad(2)},
		// A digit behind a first 0.
		{"012", 0, bad(1)},
		{"00", 0, bad(1)},
		{"-012", 0, bad(2)},
		{"-00", 0, bad(2)},
		{"[01]", 1, bad(2)},
		{"00.", 0, bad(1)},
		{"0" + strings.Repeat("9", 30), 0, bad(1)},
		// A point, e or E behind the digits.
		{"5.0", 0, bad(1)},
		{"5.", 0, bad(1)},
		{"5e", 0, bad(1)},
		{"5E1", 0, bad(1)},
		{"0.", 0, bad(1)},
		{"-0.5", 0, bad(2)},
		{"-0e", 0, bad(2)},
		{"xx123e9", 2, bad(5)},
		{strings.Repeat("9", 30) + ".", 0, bad(30)},
		{"-" + strings.Repeat("9", 30) + "E", 0, bad(31)},
		// A number that may not be.
		{"-0", 0, bad(0)},
		{"-0,", 0, bad(0)},
		{"[-0]", 1, bad(1)},
		{"[" + strings.Repeat("9", 30) + "]", 1, bad(1)},
	} {
		if got := scan(c.s, c.at); got != c.want {
			t.Errorf("Scan(%q, %d): %v", c.s, c.at, got)
		}
	}
}

// P2.2: at outside.
func TestScanArg(t *testing.T) {
	for _, s := range []string{"", "5", "-12,"} {
		for _, at := range []int{-1, -len(s) - 1, -1 << 63, len(s) + 1, len(s) + 9, 1<<63 - 1} {
			if got := scan(s, at); got != (scanned{0, 0, api.ErrArg}) {
				t.Errorf("Scan(%q, %d): %v", s, at, got)
			}
		}
	}
}

// P2.2, P2.3: MaxNumber, one past it, and digits far longer.
func TestGreat(t *testing.T) {
	fit := map[string]int{bigText(0): api.MaxNumber, "-" + bigText(0): -api.MaxNumber, bigText(-1): api.MaxNumber - 1, "-" + bigText(-1): 1 - api.MaxNumber}
	for s, n := range fit {
		if got := scan("<"+s+">", 1); got != (scanned{n, len(s) + 1, 0}) {
			t.Errorf("Scan of %s: %v", s, got)
		}
		if got, e := number.Read(s); got != n || e != api.OK {
			t.Errorf("Read of %s: %d, %d", s, got, e)
		}
	}
	for more := int64(1); more < 1000; more++ {
		refuse(t, bigText(more))
	}
	for _, p := range []uint{54, 60, 62, 63, 64, 65, 66, 127, 128, 1000} {
		n := new(big.Int).Lsh(big.NewInt(1), p)
		for _, more := range []int64{-1, 0, 1, 5} {
			refuse(t, new(big.Int).Add(n, big.NewInt(more)).String())
		}
	}
	for n := 17; n <= 40; n++ {
		refuse(t, "1"+strings.Repeat("0", n))
		refuse(t, strings.Repeat("9", n))
	}
	refuse(t, bigText(0)+"0")
	refuse(t, strings.Repeat("1234567890", 200000))
}

// refuse asks for s and - s, whose number is too great.
func refuse(t *testing.T, s string) {
	t.Helper()
	for _, s := range []string{s, "-" + s} {
		if got := scan("<"+s+">", 1); got != bad(1) {
			t.Errorf("Scan of %.40s: %v", s, got)
		}
		if got, e := number.Read(s); got != 0 || e != api.ErrNumber {
			t.Errorf("Read of %.40s: %d, %d", s, got, e)
		}
	}
}

// P2.3: what is no number's text.
func TestReadRefuses(t *testing.T) {
	for _, s := range []string{"", "-", "-0", "00", "01", "-01", "+1", "1 ", " 1", "1\n", "1,", "1-", "1.0", "1.", ".1", "1e1", "1E1", "1e", "1_0", "0x1", "a", "1a", "--1", "-a", "1\x00", "\u0661"} {
		if n, e := number.Read(s); n != 0 || e != api.ErrNumber {
			t.Errorf("Read of %q: %d, %d", s, n, e)
		}
	}
}

// shape is what the chapter calls a number's text.
var shape = regexp.MustCompile(`^(0|-?[1-9][0-9]*)$`)

// want works Scan out once more, from the chapter's words alone: byte by byte.
func want(s string, at int) scanned {
	i := at
	if i < len(s) && s[i] == '-' {
		i++
	}
	digits := 0
	for ; i < len(s) && strings.Contains("0123456789", s[i:i+1]); i++ {
		if digits == 1 && s[i-1] == '0' {
			return bad(i)
		}
		digits++
	}
	if digits == 0 || i < len(s) && strings.Contains(".eE", s[i:i+1]) {
		return bad(i)
	}
	n, ok := new(big.Int).SetString(s[at:i], 10)
	if !ok || !shape.MatchString(s[at:i]) || n.CmpAbs(big.NewInt(api.MaxNumber)) > 0 {
		return bad(at)
	}
	return scanned{int(n.Int64()), i, 0}
}

// P2.2, P2.3: all short texts of a few bytes.
func TestAllShort(t *testing.T) {
	const letters = "-019.eE, x"
	texts := []string{""}
	for ahead := texts; len(ahead[0]) < 5; ahead = texts[len(texts)-len(ahead)*len(letters):] {
		for _, s := range ahead {
			for _, c := range letters {
				texts = append(texts, s+string(c))
			}
		}
	}
	for _, s := range texts {
		for at := range len(s) + 1 {
			if got := scan(s, at); got != want(s, at) {
				t.Fatalf("Scan(%q, %d): %v", s, at, got)
			}
		}
		n, e := number.Read(s)
		if ok := shape.MatchString(s); ok != (e == api.OK) || !ok && (n != 0 || e != api.ErrNumber) {
			t.Fatalf("Read of %q: %d, %d", s, n, e)
		}
	}
}

// P2.4: there and back again.
func TestRound(t *testing.T) {
	for _, n := range numbers() {
		s, e := number.Text(n)
		if e != api.OK {
			t.Fatalf("Text of %d: %d", n, e)
		}
		if got, e := number.Read(s); got != n || e != api.OK {
			t.Errorf("Read of %q: %d, %d", s, got, e)
		}
		for c := range 256 {
			if strings.IndexByte("0123456789.eE", byte(c)) >= 0 {
				continue
			}
			if got := scan("7"+s+string([]byte{byte(c)})+"1", 1); got != (scanned{n, len(s) + 1, 0}) {
				t.Fatalf("Scan of %q with the byte %d behind: %v", s, c, got)
			}
		}
	}
	for _, s := range []string{"0", "1", "-1", "9", "-9", "10", "90", "-100", "123456789", bigText(0), "-" + bigText(0)} {
		n, e := number.Read(s)
		if e != api.OK {
			t.Fatalf("Read of %q: %d", s, e)
		}
		if got, e := number.Text(n); got != s || e != api.OK {
			t.Errorf("Text of %d: %q, %d", n, got, e)
		}
	}
}
