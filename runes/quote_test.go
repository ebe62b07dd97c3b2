package runes_test

import (
	"encoding/json"
	"strings"
	"testing"

	"hoarding/api"
	"hoarding/runes"
)

// P1.2: Quote.
func TestQuote(t *testing.T) {
	for s, want := range map[string]string{
		"":                     `""`,
		"a\n":                  `"a\n"`,
		"\b\t\n\f\r":           `"\b\t\n\f\r"`,
		"\"\\/":                `"\"\\/"`,
		`\n`:                   `"\\n"`,
		"\x00\x07\x0b\x0e":     `"\u0000\u0007\u000b\u000e"`,
		"\x0f\x10\x19\x1a\x1f": `"\u000f\u0010\u0019\u001a\u001f"`,
		" '<>&\x7f":            "\" '<>&\x7f\"",
		"\u0080\u20ac\u2028":   "\"\u0080\u20ac\u2028\"",
		"\ufffd\U0010ffff":     "\"\ufffd\U0010ffff\"",
	} {
		if got, e := runes.Quote(s); got != want || e != api.OK {
			t.Errorf("Quote(%q) is %s, %d", s, got, e)
		}
	}
	for _, s := range []string{"\xff", "a\xff", "\xe2\x82", "\xed\xa0\x80", "\xc0\x80", "\xf4\x90\x80\x80", "\"\x80"} {
		if got, e := runes.Quote(s); got != "" || e != api.ErrText {
			t.Errorf("Quote(%q) is %s, %d", s, got, e)
		}
	}
}

// P1.2: Unquote of what is written well, canonically or not.
func TestUnquote(t *testing.T) {
	for b, want := range map[string]string{
		`""`:                               "",
		`"a"`:                              "a",
		`"\"\\\/\b\f\n\r\t"`:               "\"\\/\b\f\n\r\t",
		`"/'"`:                             "/'",
		"\" \x7f\"":                        " \x7f",
		"\"\u00e9\u20ac\ufffd\U0010ffff\"": "\u00e9\u20ac\ufffd\U0010ffff",
		`"\u0041"`:                         "A",
		`"\u0000\u001f\u0022\u005c"`:       "\x00\x1f\"\\",
		`"\u20aC\u20Ac\uABCD\uabcd\uefEF"`: "\u20ac\u20ac\uabcd\uabcd\uefef",
		`"\u00411"`:                        "A1",
		`"\ud7ff\ue000\uffff\ufffd"`:       "\ud7ff\ue000\uffff\ufffd",
		`"\ud800\udc00"`:                   "\U00010000",
		`"\uDBFF\uDFFF"`:                   "\U0010ffff",
		`"\ud800\udfff\udbff\udc00"`:       "\U000103ff\U0010fc00",
		`"a\ud83d\uDE00\u0041b"`:           "a\U0001F600Ab",
		`"\\u0041\\\\n"`:                   "\\u0041\\\\n",
		`"` + strings.Repeat(`\t€`, 5000) + `"`: strings.Repeat("\t€", 5000),
	} {
		if got, end, e := runes.Unquote(b, 0); got != want || end != len(b) || e != api.OK {
			t.Errorf("Unquote(%s) is %q, %d, %d", b, got, end, e)
		}
	}
}

// P1.2: at at both ends, within and outside.
func TestUnquoteAt(t *testing.T) {
	b := `x"a""\n"` + "\xff"
	for _, c := range []struct {
		at  int
		s   string
		end int
		e   api.Errno
	}{
		{-1 << 63, "", 0, api.ErrArg},
		{-1, "", 0, api.ErrArg},
		{0, "", 0, api.ErrText},
		{1, "a", 4, api.OK},
		{2, "", 2, api.ErrText},
		{3, "", 5, api.OK},
		{4, "\n", 8, api.OK},
		{5, "", 5, api.ErrText},
		{7, "", 8, api.ErrText},
		{8, "", 8, api.ErrText},
		{9, "", 9, api.ErrText},
		{10, "", 0, api.ErrArg},
		{1<<63 - 1, "", 0, api.ErrArg},
	} {
		if s, end, e := runes.Unquote(b, c.at); s != c.s || end != c.end || e != c.e {
			t.Errorf("at %d: %q, %d, %d", c.at, s, end, e)
		}
	}
	if s, end, e := runes.Unquote("", 0); s != "" || end != 0 || e != api.ErrText {
		t.Errorf("of nothing: %q, %d, %d", s, end, e)
	}
	if _, end, e := runes.Unquote("", 1); end != 0 || e != api.ErrArg {
		t.Errorf("behind nothing: %d, %d", end, e)
	}
}

// P1.2: the place of what can't stand there.
func TestUnquotePlaces(t *testing.T) {
	for _, c := range []struct {
		b     string
		place int
	}{
		// no quote
		{`a"`, 0}, {`'a'`, 0}, {` "a"`, 0}, {"\xff\"", 0},
		{`"`, 1}, {`"a`, 2}, {"\"\u20ac", 4}, {`"a\"`, 4}, {`"\\\"`, 5}, {`"\u0041`, 7}, {`"\ud83d\ude00`, 13},
		// bytes below 32
		{"\"\x00\"", 1}, {"\"a\x1f\"", 2}, {"\"a\n", 2}, {"\"\u20ac\t\"", 4}, {"\"\\n\n\"", 3}, {"\"\\u0041\r\"", 7},
		// runes that are none, or break off
		{"\"\xff\"", 1}, {"\"a\x80\"", 2}, {"\"\xc3\"", 1}, {"\"\xe2\x82\"", 1}, {"\"\u20ac\xe2\x82", 4}, {"\"a\xf0\x9f\x98", 2},
		{"\"a\xc0\x80\"", 2}, {"\"\xe0\x9f\xbf\"", 1}, {"\"\xed\xa0\x80\"", 1}, {"\"\xf4\x90\x80\x80\"", 1}, {"\"\\n\xff\"", 3}, {"\"\\u0041\xff\"", 7}, {"\"\ufffd\xff\"", 4},
		// escapes that are none, or break off
		{`"\`, 1}, {`"a\`, 2}, {`"\\\`, 3}, {`"\x"`, 1}, {`"a\0"`, 2}, {`"\N"`, 1}, {`"\'"`, 1}, {`"\U00000041"`, 1}, {"\"\\\n\"", 1}, {"\"\\\xff\"", 1}, {"\"\\\u20ac\"", 1}, {`"\a"`, 1}, {`"\v"`, 1},
		{`"\u`, 1}, {`"\u"`, 1}, {`"a\u1`, 2}, {`"a\u12`, 2}, {`"\u004`, 1}, {`"\u004"`, 1}, {`"\u004g"`, 1}, {`"\ug041"`, 1}, {`"\u004:"`, 1}, {`"\u004@"`, 1}, {"\"\\u004`\"", 1}, {`"\u00/1"`, 1}, {`"\u+041"`, 1}, {`"\u-041"`, 1}, {`"\u0_41"`, 1}, {`"\u0x41"`, 1}, {`"\u 041"`, 1}, {"\"\\u00\xff1\"", 1}, {"\"\\u00\u20ac\"", 1},
		// halves
		{`"\udc00"`, 1}, {`"a\uDFFF"`, 2}, {`"\udc00\ud800"`, 1},
		{`"\ud800"`, 1}, {`"\uDBFF`, 1}, {`"a\ud800b"`, 2}, {`"\ud800\n"`, 1}, {`"\ud800\`, 1}, {`"\ud800\u`, 1}, {`"\ud800\udc0`, 1}, {`"\ud800\udc0g"`, 1}, {`"\ud800udc00"`, 1}, {`"\ud800/udc00"`, 1}, {`"\ud800\Udc00"`, 1}, {`"\ud800\xdc00"`, 1},
		{`"\ud800\u0041"`, 1}, {`"\ud800\ud800"`, 1}, {`"\ud800\udbff"`, 1}, {`"\ud800\ue000"`, 1}, {`"\ud800\ud800\udc00"`, 1}, {"\"\\ud800\xff\"", 1},
		{`"\ud83d\ude00\ude00"`, 13}, {`"\ud83d\ude00\ud83d"`, 13}, {`"\u0000\udc00"`, 7},
		// the first of several
		{"\"\\x\x00\xff", 1}, {"\"\x00\\x", 1}, {"\"a\xff\\x\x00", 2},
	} {
		if s, end, e := runes.Unquote(c.b, 0); s != "" || end != c.place || e != api.ErrText {
			t.Errorf("Unquote(%q) is %q, %d, %d", c.b, s, end, e)
		}
		if s, end, e := runes.Unquote("\\\"\xff"+c.b, 3); s != "" || end != c.place+3 || e != api.ErrText {
			t.Errorf("Unquote(%q) farther behind is %q, %d, %d", c.b, s, end, e)
		}
	}
}

// P1.2: a text that breaks off behind each of its bytes.
func TestUnquoteCut(t *testing.T) {
	b := `"a€\n\u0041\ud83d\ude00"`
	places := []int{0, 1, 2, 2, 2, 5, 5, 7, 7, 7, 7, 7, 7, 13, 13, 13, 13, 13, 13, 13, 13, 13, 13, 13, 13, 25}
	if len(places) != len(b) {
		t.Fatal(len(b), len(places))
	}
	for n, place := range places {
		if s, end, e := runes.Unquote(b[:n], 0); s != "" || end != place || e != api.ErrText {
			t.Errorf("behind %d bytes: %q, %d, %d", n, s, end, e)
		}
	}
}

// P1.3: every rune, and what may stand behind it.
func TestUnquoteOfQuote(t *testing.T) {
	for n := range 0x110000 {
		if n >= 0xD800 && n <= 0xDFFF {
			continue
		}
		s := string(rune(n))
		q, e := runes.Quote(s)
		if e != api.OK {
			t.Fatalf("Quote of %#x: %d", n, e)
		}
		if back, end, e := runes.Unquote(q, 0); back != s || end != len(q) || e != api.OK {
			t.Fatalf("Unquote(%s) is %q, %d, %d", q, back, end, e)
		}
	}
	for _, s := range []string{"", "a", "\"", "\\", "a\\", "\\\"", "\\u0041", "\x00\n\x1f", "\u20ac\U0001F600", "\ufffd"} {
		q, _ := runes.Quote(s)
		for _, behind := range []string{"", "\"", "\\", "x", "\n", "\x00", "\xff", "\xe2\x82", q, ": 1"} {
			for _, ahead := range []string{"", "\"", "\\", "\xff"} {
				back, end, e := runes.Unquote(ahead+q+behind, len(ahead))
				if back != s || end != len(ahead)+len(q) || e != api.OK {
					t.Errorf("%q behind %q: %q, %d, %d", behind, s, back, end, e)
				}
			}
		}
	}
}

// allOf calls deal with every chain of up to n of the parts.
func allOf(parts []string, n int, deal func(string)) {
	var grow func(s string, n int)
	grow = func(s string, n int) {
		deal(s)
		if n == 0 {
			return
		}
		for _, p := range parts {
			grow(s+p, n-1)
		}
	}
	grow("", n)
}

// P1.3: what is not the same is written otherwise.
func TestQuoteTellsApart(t *testing.T) {
	seen := map[string]string{}
	allOf([]string{"\"", "\\", "/", "n", "\n", "u", "0", "a", "\x00", "\x0a", "\u20ac"}, 4, func(s string) {
		q, e := runes.Quote(s)
		if other, ok := seen[q]; e != api.OK || ok && other != s {
			t.Fatalf("%q and %q are both %s, %d", s, other, q, e)
		}
		seen[q] = s
	})
}

// P1.2, R1: whatever stands there, a text that is read is the one that JSON tells, and all that is ahead of a fault's place may stand there.
func TestUnquoteOfAll(t *testing.T) {
	parts := []string{"\"", "\\", "u", "0041", "d83d", "\\ude00", "n", "\n", "\u20ac", "\xe2", "\xff"}
	allOf(parts, 5, func(rest string) {
		b := "\"" + rest
		s, end, e := runes.Unquote(b, 0)
		switch e {
		case api.OK:
			var told string
			if err := json.Unmarshal([]byte(b[:end]), &told); err != nil || told != s {
				t.Fatalf("Unquote(%q) is %q, %d; JSON tells %q, %v", b, s, end, told, err)
			}
		case api.ErrText:
			if s != "" || end < 1 || end > len(b) {
				t.Fatalf("Unquote(%q) is %q, %d", b, s, end)
			}
			if _, after, e := runes.Unquote(b[:end]+"\"", 0); after != end+1 || e != api.OK {
				t.Fatalf("Unquote(%q) tells %d, but what is ahead of it: %d, %d", b, end, after, e)
			}
		default:
			t.Fatalf("Unquote(%q): %d", b, e)
		}
	})
}
