package runes_test

import (
	"slices"
	"strings"
	"testing"

	"hoarding/api"
	"hoarding/runes"
)

// encode writes n as UTF-8 in size bytes, whether or not it may be written so.
func encode(n, size int) string {
	if size == 1 {
		return string([]byte{byte(n)})
	}
	b := make([]byte, size)
	for i := size - 1; i > 0; i-- {
		b[i] = 0x80 | byte(n&0x3F)
		n >>= 6
	}
	b[0] = []byte{2: 0xC0, 3: 0xE0, 4: 0xF0}[size] | byte(n)
	return string(b)
}

// P1.1: every number in every form that has room for it.
func TestValidForms(t *testing.T) {
	room := []int{0, 1 << 7, 1 << 11, 1 << 16, 1 << 21}
	for size := 1; size <= 4; size++ {
		for n := range room[size] {
			want := n >= room[size-1] && n <= 0x10FFFF && (n < 0xD800 || n > 0xDFFF)
			if got := runes.Valid(encode(n, size)); got != want {
				t.Fatalf("Valid of %#x in %d bytes: %v", n, size, got)
			}
		}
	}
}

func TestValid(t *testing.T) {
	for _, s := range []string{"", "a", "a\x00\x7f", "\u0080\u07ff\u0800\uffff", "\ud7ff\ue000", "\U00010000\U0010ffff", "\ufffd", strings.Repeat("\u20ac", 5000)} {
		if !runes.Valid(s) {
			t.Errorf("%q is a text", s)
		}
	}
	for _, s := range []string{"\x80", "\xbf", "\xc3", "a\xc3", "\xc3a", "\xe2\x82", "\xe2\x82a", "\xe2a\xac", "\xf0\x9f\x98", "\xf4\x90\x80\x80", "\xf8\x88\x80\x80\x80", "\xfe", "\xff", "\u20ac\xac", "\xed\xa0\xbd\xed\xb8\x80", "\ufffd\xef\xbf"} {
		if runes.Valid(s) {
			t.Errorf("%q is no text", s)
		}
	}
}

// P1.1: Name.
func TestName(t *testing.T) {
	longest := "Z" + strings.Repeat("9", api.MaxName-1)
	for _, s := range []string{"a", "z", "A", "Z", "a0", "a9", "Disk", "nodeA1b2", longest, strings.Repeat("a", api.MaxName)} {
		if !runes.Name(s) {
			t.Errorf("%q is a name", s)
		}
	}
	for _, s := range []string{"", "0", "9a", "-", "a-", "a_b", "a.b", " a", "a ", "a\n", "a\x00", "\u00e9", "a\u00e9", "a\u0661", "\xff", "a\xff", longest + "9", strings.Repeat("a", 1000)} {
		if runes.Name(s) {
			t.Errorf("%q is no name", s)
		}
	}
	for c := range 256 {
		letter := strings.Contains("abcdefghijklmnopqrstuvwxyzABCDEFGHIJKLMNOPQRSTUVWXYZ", string([]byte{byte(c)}))
		digit := c >= '0' && c <= '9'
		if runes.Name(string([]byte{byte(c)})) != letter {
			t.Errorf("the byte %d alone", c)
		}
		if runes.Name(string([]byte{'a', byte(c)})) != (letter || digit) {
			t.Errorf("the byte %d behind a letter", c)
		}
	}
}

// P1.1: Count.
func TestCount(t *testing.T) {
	for s, want := range map[string]int{"": 0, "a": 1, "a\u20ac": 2, "\x00\x00": 2, "\ufffd": 1, "\U0001F600": 1, "e\u0301": 2, "\xff": 0, "abc\xff": 0, "abc\xe2\x82": 0, "\xed\xa0\x80": 0, strings.Repeat("\u00e9", 3000): 3000} {
		if got := runes.Count(s); got != want {
			t.Errorf("Count(%q) is %d", s, got)
		}
	}
}

type step struct{ at, r int }

func steps(s string) []step {
	var out []step
	for at, r := range runes.All(s) {
		out = append(out, step{at, r})
	}
	return out
}

// P1.1: All.
func TestAll(t *testing.T) {
	for s, want := range map[string][]step{
		"":                           nil,
		"a\u20acb":                   {{0, 'a'}, {1, 0x20AC}, {4, 'b'}},
		"\x00\u00e9\U0010ffff\x7f":   {{0, 0}, {1, 0xE9}, {3, 0x10FFFF}, {7, 0x7F}},
		"\ufffda":                    {{0, 0xFFFD}, {3, 'a'}},
		"\xff":                       nil,
		"a\xffb":                     {{0, 'a'}},
		"\ufffd\xffb":                {{0, 0xFFFD}},
		"a\xe2\x82":                  {{0, 'a'}},
		"ab\xed\xa0\x80c":            {{0, 'a'}, {1, 'b'}},
		"\u00e9\xc0\x80c":            {{0, 0xE9}},
		"\U0001F600\xf4\x90\x80\x80": {{0, 0x1F600}},
	} {
		if got := steps(s); !slices.Equal(got, want) {
			t.Errorf("All(%q) goes over %v", s, got)
		}
	}
}

// P1.1, R4: it may be left early and gone over again.
func TestAllTwice(t *testing.T) {
	all := runes.All("a\u20acb\xff")
	n := 0
	for at, r := range all {
		n++
		if r == 0x20AC {
			if at != 1 {
				t.Error(at)
			}
			break
		}
	}
	if n != 2 {
		t.Error("left behind", n)
	}
	for range 2 {
		n = 0
		for range all {
			n++
		}
		if n != 3 {
			t.Error("gone over", n)
		}
	}
}
