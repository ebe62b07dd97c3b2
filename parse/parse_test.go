package parse_test

import (
	"math"
	"strings"
	"testing"

	"hoarding/api"
	"hoarding/parse"
	"hoarding/tree"
)

// P4.1: Blanks.
func TestBlanks(t *testing.T) {
	for _, c := range []struct {
		s        string
		at, want int
	}{
		{"", 0, 0}, {"", -1, 0}, {"", 1, 0}, {"", math.MaxInt, 0}, {"", math.MinInt, 0},
		{" \t\n\rx ", 0, 4}, {" \t\n\rx ", 1, 4}, {" \t\n\rx ", 3, 4}, {" \t\n\rx ", 4, 4}, {" \t\n\rx ", 5, 6}, {" \t\n\rx ", 6, 6},
		{" \t\n\rx ", -1, 4}, {" \t\n\rx ", math.MinInt, 4}, {" \t\n\rx ", 7, 6}, {" \t\n\rx ", math.MaxInt, 6},
		{"x  ", -5, 0}, {"x  ", 0, 0}, {"x  ", 1, 3}, {"    ", 0, 4}, {"    ", 2, 4}, {"a b", 1, 2},
		{"\u00a0 ", 0, 0}, {" \u2028", 0, 1}, {" \xa0", 0, 1}, {" \ufeff", 0, 1},
		{strings.Repeat(" \n", 50000) + "x", 0, 100000},
	} {
		if got := parse.Blanks(c.s, c.at); got != c.want {
			t.Errorf("Blanks(%.20q, %d): %d", c.s, c.at, got)
		}
	}
	for c := range 256 {
		want := 1
		if c == 32 || c == 9 || c == 10 || c == 13 {
			want = 2
		}
		if got := parse.Blanks("x"+string([]byte{byte(c)})+"x", 1); got != want {
			t.Errorf("the byte %d: %d", c, got)
		}
	}
}

// P4.1: Line.
func TestLine(t *testing.T) {
	type place struct{ line, column int }
	for s, want := range map[string][]place{
		"":            {{1, 1}},
		"ab":          {{1, 1}, {1, 2}, {1, 3}},
		"\n":          {{1, 1}, {2, 1}},
		"\n\n":        {{1, 1}, {2, 1}, {3, 1}},
		"a\nbc\n\nd":  {{1, 1}, {1, 2}, {2, 1}, {2, 2}, {2, 3}, {3, 1}, {4, 1}, {4, 2}},
		"a\r\n\tb\rc": {{1, 1}, {1, 2}, {1, 3}, {2, 1}, {2, 2}, {2, 3}, {2, 4}, {2, 5}},
		"\u20ac\n":    {{1, 1}, {1, 2}, {1, 3}, {1, 4}, {2, 1}},
		"\xff\x0b\n":  {{1, 1}, {1, 2}, {1, 3}, {2, 1}},
	} {
		if len(want) != len(s)+1 {
			t.Fatalf("%q", s)
		}
		for at := range want {
			if line, column := parse.Line(s, at); (place{line, column}) != want[at] {
				t.Errorf("Line(%q, %d): %d, %d", s, at, line, column)
			}
		}
		for _, at := range []int{-1, -7, math.MinInt} {
			if line, column := parse.Line(s, at); line != 1 || column != 1 {
				t.Errorf("Line(%q, %d): %d, %d", s, at, line, column)
			}
		}
		for _, at := range []int{len(s) + 1, len(s) + 7, math.MaxInt} {
			if line, column := parse.Line(s, at); (place{line, column}) != want[len(s)] {
				t.Errorf("Line(%q, %d): %d, %d", s, at, line, column)
			}
		}
	}
	if line, column := parse.Line(strings.Repeat("ab\n", 50000)+"xyz", 150002); line != 50001 || column != 3 {
		t.Errorf("%d, %d", line, column)
	}
}

// P4.2, P4.3, P4.4: ordinary texts of each kind.
func TestParse(t *testing.T) {
	for s, want := range map[string]api.Value{
		"null":  null,
		"true":  yes,
		"false": no,

		"0":                 tree.Num(0),
		"7":                 tree.Num(7),
		"-12":               tree.Num(-12),
		"9007199254740992":  tree.Num(api.MaxNumber),
		"-9007199254740992": tree.Num(-api.MaxNumber),

		`""`:                         tree.Text(""),
		`"a"`:                        tree.Text("a"),
		`"null"`:                     tree.Text("null"),
		`"[1,{"`:                     tree.Text("[1,{"),
		`"\"\\\/\b\f\n\r\t"`:         tree.Text("\"\\/\b\f\n\r\t"),
		`"\u0041\u00e9\ud83d\uDE00"`: tree.Text("A\u00e9\U0001F600"),
		"\" \u20ac\x7f\U0010ffff\"":  tree.Text(" \u20ac\x7f\U0010ffff"),

		"[]":                 list(),
		"[null]":             list(null),
		"[1]":                list(tree.Num(1)),
		"[1,-2,0]":           list(tree.Num(1), tree.Num(-2), tree.Num(0)),
		"[true,false,null]":  list(yes, no, null),
		`["a","","a"]`:       list(tree.Text("a"), tree.Text(""), tree.Text("a")),
		"[[],[[]],{}]":       list(list(), list(list()), nothing()),
		"[[1,[2,3]],[],[4]]": list(list(tree.Num(1), list(tree.Num(2), tree.Num(3))), list(), list(tree.Num(4))),

		"{}":                              nothing(),
		`{"a":1}`:                         object("a", tree.Num(1)),
		`{"a":[1,null]}`:                  object("a", list(tree.Num(1), null)),
		`{"b":1,"a":2,"c":3}`:             object("b,a,c", tree.Num(1), tree.Num(2), tree.Num(3)),
		`{"":true}`:                       object("", yes),
		`{"":{"":{}}}`:                    object("", object("", nothing())),
		`{"\u0061\n":"x"}`:                object("a\n", tree.Text("x")),
		"{\"\u20ac\":[],\"\xc3\xa9\":{}}": object("\u20ac,\u00e9", list(), nothing()),
		// A key is twice only within one object.
		`{"a":{"a":{"a":1}}}`:                 object("a", object("a", object("a", tree.Num(1)))),
		`[{"a":1},{"a":2}]`:                   list(object("a", tree.Num(1)), object("a", tree.Num(2))),
		`{"a":{"b":1},"b":{"a":1}}`:           object("a,b", object("b", tree.Num(1)), object("a", tree.Num(1))),
		`{"x":{"a":1,"b":2},"a":{"x":1}}`:     object("x,a", object("a,b", tree.Num(1), tree.Num(2)), object("x", tree.Num(1))),
		`{"a":"a","A":"a","aa":"a","a ":"a"}`: object("a,A,aa,a ", tree.Text("a"), tree.Text("a"), tree.Text("a"), tree.Text("a")),
		`{"a":["a",{"a":["a"]}],"b":"a"}`:     object("a,b", list(tree.Text("a"), object("a", list(tree.Text("a")))), tree.Text("a")),
	} {
		takes(t, s, want)
	}
}

// P4.2, P4.4: blanks between all signs, and within an empty list and an empty object.
func TestBlanksBetween(t *testing.T) {
	signs := []string{"{", `"a"`, ":", "[", "1", ",", "null", ",", "[", "]", ",", "{", "}", "]", ",", `"b"`, ":", "{", `"c"`, ":", "true", "}", "}"}
	want := object("a,b", list(tree.Num(1), null, list(), nothing()), object("c", yes))
	for _, between := range []string{"", " ", "\t", "\n", "\r", "\r\n", " \t\n\r", "\n\n    "} {
		takes(t, strings.Join(signs, between), want)
		takes(t, "["+between+"]", list())
		takes(t, "{"+between+"}", nothing())
		takes(t, "["+between+"7"+between+"]", list(tree.Num(7)))
	}
	for _, none := range []string{"\x00", "\x0b", "\x0c", "\u00a0", "\u2028", "\ufeff", "//", "/**/"} {
		for i := range len(signs) - 1 {
			ahead := strings.Join(signs[:i+1], "")
			refuses(t, ahead+none+strings.Join(signs[i+1:], ""), len(ahead), api.ErrJson)
		}
	}
}

// P4.3: nothing, blanks alone, and what stands behind the value.
func TestBehind(t *testing.T) {
	for s, place := range map[string]int{
		"": 0, " ": 1, "\n\t \r": 4,
		"null null": 5, "nullx": 4, "truetrue": 4, "falsefalse": 5, "nulL": 0,
		"1 2": 2, "1,": 1, "1]": 1, "1x": 1, "-1-": 2, "5\u0661": 1, "1\x00": 1,
		`""""`: 2, `"a"x`: 3, `"a" "b"`: 4, `"a":1`: 3,
		"[]]": 2, "[] ]": 3, "[][]": 2, "{}}": 2, "{}{}": 2, "[],": 2, "{},{}": 2, "[1]x": 3, "{}\n\nx": 4,
		"null\xff": 4, "null\u00a0": 4, "\ufeffnull": 0, "\xffnull": 0, "\x00": 0, "null\x00": 4,
	} {
		if v, at, e := parse.Parse(s); e != api.ErrJson || at != place || !same(v, null) {
			t.Errorf("Parse(%q): %v, %d, %d", s, v, at, e)
		}
	}
}

// P4.2, P4.3: a byte, or the end, that can't stand where it stands.
func TestFaults(t *testing.T) {
	for s, place := range map[string]int{
		// A word that is cut or misspelt: its first letter.
		"n": 0, "nul": 0, "nulx": 0, "Null": 0, "NULL": 0, "nil": 0, "t": 0, "tru": 0, "truE": 0, "tRue": 0, "f": 0, "fals": 0, "falsy": 0, "False": 0, "undefined": 0, "NaN": 0,
		"[tru]": 1, "[nul": 1, "[null,fals]": 6, `{"a":nul}`: 5, `{"a":tru`: 5, "n ull": 0, "nu\nll": 0, "[nullnull]": 5, "[truefalse]": 5,
		// Signs that begin nothing.
		",": 0, ":": 0, "]": 0, "}": 0, "x": 0, "+1": 0, ".5": 0, "'a'": 0, "a": 0, "e1": 0, "/": 0, "\\": 0,
		"[,": 1, "[,1]": 1, "[}": 1, "[x]": 1, "[+1]": 1, "[:": 1, `{"a":,`: 5, `{"a":}`: 5, `{"a":]`: 5, `{"a"::1}`: 5, `{"a":x}`: 5,
		// A comma behind the last part, or twice.
		"[1,]": 3, "[1, ]": 4, "[[],]": 4, `{"a":1,}`: 7, `{"a":1 , }`: 9, "[1,,2]": 3, `{"a":1,,"b":2}`: 7, "[,]": 1, "{,}": 1,
		// What is missing: a comma, a colon, a closing bracket, all of the rest.
		"[1 2]": 3, "[1[": 2, `["a""b"]`: 4, "[1:2]": 2, "[null true]": 6, `{"a":1 "b":2}`: 7, `{"a":1:2}`: 6,
		`{"a"}`: 4, `{"a" 1}`: 5, `{"a",1}`: 4, `{"a"`: 4, `{"a" `: 5, `{"a"]`: 4, `{"a""b"}`: 4,
		"[": 1, "[ ": 2, "[1": 2, "[1 ": 3, "[1,": 3, "[1, ": 4, "[[]": 3, "[1}": 2, "[1 }": 3, "[[1]}": 4,
		"{": 1, "{ ": 2, `{"a":`: 5, `{"a": `: 6, `{"a":1`: 6, `{"a":1 `: 7, `{"a":1,`: 7, `{"a":1]`: 6, `{"a":{}`: 7, `{"a":[}`: 6, "{]": 1,
		// A key that is no text.
		"{1:2}": 1, "{null:1}": 1, "{a:1}": 1, "{'a':1}": 1, "{[]:1}": 1, "{{}:1}": 1, "{:1}": 1, "{-": 1, `{"a":1,2:3}`: 7, `{"a":1,null:3}`: 7, `{"a":1,x`: 7, "{\xff": 1,
		// Of two faults the first from the left.
		"[tru,1,]": 1, "[1,],\x00": 3, `[1 "`: 3, `[1,]"\x"`: 3, "[1 01]": 3, "{a:-}": 1, `{"a" "a":1}`: 5, `{"b":1 "b":2}`: 7,
	} {
		refuses(t, s, place, api.ErrJson)
	}
}

// P4.2, P4.3: a text, a number that may not be, at its own place.
func TestTextsAndNumbers(t *testing.T) {
	for s, place := range map[string]int{
		`"`: 1, `"a`: 2, `"a\"`: 4, `"\x"`: 1, `"a\u12"`: 2, "\"a\n\"": 2, "\"\xff\"": 1, "\"\u20ac\xe2\x82\"": 4, `"\ud800"`: 1, `"\udc00"`: 1, `"ab\ud800\u0041"`: 3,
		`["a]`: 4, `["\x",]`: 2, "[1,\"\t\"]": 4, `{"a`: 3, `{"a:1}`: 6, `{"\q":1}`: 2, "{\"a\":\"\x00\"}": 6, `{"a":"\`: 6, "{\"a\":1,\"\xff\":2}": 8,
		// No quote ends the key, so there is none that was there ahead.
		`{"a":1,"a`: 9,
		// The first from the left.
		`["\x" 1 01 tru`: 2, `{"\x" 1}`: 2,
	} {
		refuses(t, s, place, api.ErrText)
	}
	for s, place := range map[string]int{
		"-": 1, "-x": 1, "--1": 1, "- 1": 1, "-null": 1, "01": 1, "00": 1, "-01": 2, "1.5": 1, "0.": 1, "1e3": 1, "12E": 2, "-0": 0, "-0.5": 2,
		"9007199254740993": 0, "-9007199254740993": 0, "99999999999999999999999": 0, "99999999999999999999.": 20,
		"[-]": 2, "[1,-": 4, "[01]": 2, "[1.0]": 2, "[-0]": 1, "[1,-0,]": 3, "[7,9007199254740993]": 3, `{"a":1.5}`: 6, `{"a":-0}`: 5, `{"a":-`: 6, `{"a":00}`: 6,
		// The first from the left.
		"[1.5,]": 2, `[-0,"\x"]`: 1, "[02 3": 2,
	} {
		refuses(t, s, place, api.ErrNumber)
	}
}

// P4.2: a key that its object had ahead, at its quote.
func TestTwice(t *testing.T) {
	for s, place := range map[string]int{
		`{"a":1,"a":2}`:                               7,
		`{"a":1,"a":1}`:                               7,
		`{"a":1,"b":2,"a":3}`:                         13,
		`{"b":1,"a":2,"a":3}`:                         13,
		`{"":1,"":2}`:                                 6,
		`{"a":1, "a" :2}`:                             8,
		`{"a":{},"a":{}}`:                             8,
		`{"a":{"b":1,"c":[2]},"a":1}`:                 21,
		`[1,{"x":{"y":1,"y":2}}]`:                     15,
		`{"a":{"a":1},"b":1,"a":1}`:                   19,
		`[{"a":1},{"a":1,"a":1}]`:                     16,
		`{"a":1,"\u0061":2}`:                          7,
		`{"\u0061":1,"a":2}`:                          12,
		`{"/":1,"\/":2}`:                              7,
		`{"\n":1,"\u000a":2}`:                         8,
		`{"\ud83d\ude00":1,"` + "\U0001F600" + `":2}`: 18,
		// The first from the left: its quote stands ahead of all that is wrong behind it.
		`{"a":1,"a"`:      7,
		`{"a":1,"a" 2}`:   7,
		`{"a":1,"a":tru}`: 7,
		`{"a":1,"a":01,}`: 7,
		`{"a":1,"a":"\x`:  7,
	} {
		refuses(t, s, place, api.ErrTwice)
	}
	refuses(t, `{"a":1 ,"b":01,"a":2}`, 13, api.ErrNumber)
	refuses(t, `{"a":x,"a":2}`, 5, api.ErrJson)
}

// P4.3: exactly MaxText bytes, and one more.
func TestLong(t *testing.T) {
	blanks := func(n int) string { return strings.Repeat(" ", n) }
	for name, s := range map[string]string{
		"a text":        `"` + strings.Repeat("a", api.MaxText-2) + `"`,
		"runes":         `"` + strings.Repeat("\u00e9", api.MaxText/2-1) + `"`,
		"a list":        "[" + strings.Repeat("1,", api.MaxText/2-2) + "12]",
		"blanks ahead":  blanks(api.MaxText-2) + "{}",
		"blanks behind": "[]" + blanks(api.MaxText-2),
		"blanks within": "[" + blanks(api.MaxText-2) + "]",
		"a deep one":    nested("[", 23, blanks(api.MaxText-46), "]"),
	} {
		v, at, e := parse.Parse(s)
		if len(s) != api.MaxText || e != api.OK || at != 0 || tree.Check(v) != api.OK {
			t.Errorf("%s: %d bytes, %d, %d", name, len(s), at, e)
		}
		for _, s := range []string{s + " ", " " + s, s + "x", s + s, s + strings.Repeat("[", 100000)} {
			if v, at, e := parse.Parse(s); e != api.ErrLong || at != 0 || !same(v, null) {
				t.Errorf("%s, and more: %d, %d", name, at, e)
			}
		}
	}
	for name, s := range map[string]string{"nothing": "", "no value": "x", "too deep": nested("[", 30, "", "]"), "key twice": `{"a":1,"a":1}`, "no text": `"\x"`, "no number": "01"} {
		long := s + strings.Repeat(" ", api.MaxText+1-len(s))
		if v, at, e := parse.Parse(long); e != api.ErrLong || at != 0 || !same(v, null) {
			t.Errorf("%s, too long: %d, %d", name, at, e)
		}
	}
	// A fault of what is not too long may stand at its end.
	if _, at, e := parse.Parse(blanks(api.MaxText)); at != api.MaxText || e != api.ErrJson {
		t.Errorf("blanks alone: %d, %d", at, e)
	}
	// Value knows no such limit.
	s := "[" + strings.Repeat("1,", api.MaxText) + "1]"
	if v, end, e := parse.Value(s, 0, 1); e != api.OK || end != len(s) || len(v.List) != api.MaxText+1 {
		t.Errorf("a long value: %d, %d", end, e)
	}
}

// kinds of parts in which a value may stand.
var around = []struct{ name, open, end string }{{"lists", "[", "]"}, {"objects", `{"a":`, "}"}, {"both", `[0,{"b":`, "}]"}}

// P4.2, P4.3: a value that stands exactly MaxDeep deep, and one deeper.
func TestDeep(t *testing.T) {
	for _, c := range around {
		step := strings.Count(c.open, "[") + strings.Count(c.open, "{")
		most := (api.MaxDeep - 1) / step
		for _, inner := range []string{"1", "null", `"a"`, "[]", "{}", "[ ]"} {
			s := strings.Repeat("[", api.MaxDeep-1-most*step) + nested(c.open, most, inner, c.end) + strings.Repeat("]", api.MaxDeep-1-most*step)
			v, at, e := parse.Parse(s)
			if e != api.OK || at != 0 || tree.Depth(v) != api.MaxDeep || tree.Check(v) != api.OK {
				t.Errorf("%s around %s: %d, %d, depth %d", c.name, inner, at, e, tree.Depth(v))
			}
			refuses(t, "[ "+s+"]", 2+strings.LastIndex(s, inner), api.ErrDeep)
			refuses(t, "[[], "+s+"]", 5+strings.LastIndex(s, inner), api.ErrDeep)
		}
	}
	// Parts side by side are not deeper than one another.
	s := "[" + strings.Repeat(nested("[", api.MaxDeep-1, "", "]")+",", 20) + nested(`{"":`, api.MaxDeep-2, "{}", "}") + "]"
	if v, at, e := parse.Parse(s); e != api.OK || at != 0 || tree.Depth(v) != api.MaxDeep || len(v.List) != 21 {
		t.Errorf("side by side: %d, %d", at, e)
	}
}

// P4.2, R2: too deep goes ahead of what is wrong there, but not of the text's end or of what closes.
func TestDeepFirst(t *testing.T) {
	open := strings.Repeat("[", api.MaxDeep)
	for _, behind := range []string{"1", "[", "{", "x", ",", "}", "tru", "-", `"`, "01", "\xff", ":"} {
		refuses(t, open+" "+behind, api.MaxDeep+1, api.ErrDeep)
	}
	refuses(t, open, api.MaxDeep, api.ErrJson)
	refuses(t, open+"\n ", api.MaxDeep+2, api.ErrJson)
	refuses(t, open+"]x", api.MaxDeep+1, api.ErrJson)
	keys := strings.Repeat("[", api.MaxDeep-1)
	refuses(t, keys+`{"a":`, api.MaxDeep+4, api.ErrJson)
	refuses(t, keys+`{"a": x`, api.MaxDeep+5, api.ErrDeep)
	refuses(t, keys+`{"a" x`, api.MaxDeep+4, api.ErrJson)
	refuses(t, keys+`{"\x":1`, api.MaxDeep+1, api.ErrText)
	refuses(t, keys+`{}x`, api.MaxDeep+1, api.ErrJson)
	refuses(t, "[x"+open, 1, api.ErrJson)
}

// P4.2: from Value with each deep.
func TestValueDeep(t *testing.T) {
	for _, c := range around[:2] {
		for deep := -30; deep <= api.MaxDeep; deep++ {
			room := api.MaxDeep - deep
			for _, inner := range []string{"7", "[]", "{}"} {
				s := "," + nested(c.open, room, inner, c.end)
				v, end, e := parse.Value(s, 1, deep)
				if e != api.OK || end != len(s) || tree.Depth(v) != room+1 {
					t.Errorf("deep %d, %s: %d, %d", deep, c.name, end, e)
				}
				s = "," + nested(c.open, room+1, inner, c.end)
				if v, end, e := parse.Value(s, 1, deep); e != api.ErrDeep || end != strings.Index(s, inner) || !same(v, null) {
					t.Errorf("deep %d, %s, one more: %d, %d", deep, c.name, end, e)
				}
			}
		}
	}
	for _, deep := range []int{api.MaxDeep + 1, api.MaxDeep + 2, 1000, math.MaxInt32 + 1, math.MaxInt - 1, math.MaxInt} {
		for _, s := range []string{" 1", " []", " x", " \"", "  "} {
			if v, end, e := parse.Value(s, 1, deep); e != api.ErrDeep || end != 1 || !same(v, null) {
				t.Errorf("Value(%q, 1, %d): %v, %d, %d", s, deep, v, end, e)
			}
			if _, end, e := parse.Value(s, len(s), deep); e != api.ErrJson || end != len(s) {
				t.Errorf("Value(%q, %d, %d): %d, %d", s, len(s), deep, end, e)
			}
		}
	}
}

// P4.2: at outside, at both ends, and where no value begins.
func TestValueAt(t *testing.T) {
	for _, s := range []string{"", "1", "[1,2]", strings.Repeat(" ", 5000)} {
		for _, at := range []int{-1, -len(s), -len(s) - 1, math.MinInt, len(s), len(s) + 1, math.MaxInt} {
			if at == 0 && s != "" {
				continue
			}
			for _, deep := range []int{1, 0, -1, math.MinInt, api.MaxDeep, api.MaxDeep + 1, math.MaxInt} {
				if v, end, e := parse.Value(s, at, deep); e != api.ErrJson || end != len(s) || !same(v, null) {
					t.Errorf("Value(%.9q, %d, %d): %v, %d, %d", s, at, deep, v, end, e)
				}
			}
		}
	}
	const s = ` {"a" : [1 ,null]}12`
	for _, c := range []struct {
		at, end int
		e       api.Errno
		want    api.Value
	}{
		{0, 0, api.ErrJson, null}, {1, 18, api.OK, object("a", list(tree.Num(1), null))}, {2, 5, api.OK, tree.Text("a")}, {3, 3, api.ErrJson, null}, {4, 20, api.ErrText, null}, {5, 5, api.ErrJson, null}, {6, 6, api.ErrJson, null}, {7, 7, api.ErrJson, null},
		{8, 17, api.OK, list(tree.Num(1), null)}, {9, 10, api.OK, tree.Num(1)}, {10, 10, api.ErrJson, null}, {11, 11, api.ErrJson, null}, {12, 16, api.OK, null}, {13, 13, api.ErrJson, null}, {16, 16, api.ErrJson, null}, {17, 17, api.ErrJson, null},
		{18, 20, api.OK, tree.Num(12)}, {19, 20, api.OK, tree.Num(2)},
	} {
		if v, end, e := parse.Value(s, c.at, 1); e != c.e || end != c.end || !same(v, c.want) {
			t.Errorf("Value at %d: %v, %d, %d", c.at, v, end, e)
		}
	}
}

// R1: from a deep far below 0 on, each call ends, however deep the value is.
func TestVeryDeep(t *testing.T) {
	const n = 3_000_000
	open, end := strings.Repeat("[", n), strings.Repeat("]", n)
	if v, at, e := parse.Value(open, 0, math.MinInt); e != api.ErrJson || at != n || !same(v, null) {
		t.Errorf("open: %d, %d", at, e)
	}
	if v, at, e := parse.Value(open+end, 0, -n); e != api.OK || at != 2*n || tree.Count(v) != n {
		t.Errorf("closed: %d, %d", at, e)
	}
}

// R4: what two calls answer is not the same memory, nor are two lists of one answer.
func TestNewMemory(t *testing.T) {
	const s = `{"a":[1,2],"b":[1,2],"c":{"a":1},"d":{"a":1}}`
	first, _, _ := parse.Parse(s)
	second, _, _ := parse.Parse(s)
	want := object("a,b,c,d", list(tree.Num(1), tree.Num(2)), list(tree.Num(1), tree.Num(2)), object("a", tree.Num(1)), object("a", tree.Num(1)))
	for i, part := range first.List {
		full := part.List[:cap(part.List)]
		for j := range full {
			full[j] = yes
		}
		for j := range part.Keys {
			part.Keys[j] = "x"
		}
		for j := i + 1; j < len(first.List); j++ {
			if !same(first.List[j], want.List[j]) {
				t.Errorf("%d shares with %d", j, i)
			}
		}
	}
	first.List[0], first.Keys[0] = yes, "x"
	if !same(second, want) {
		t.Errorf("another call's answer: %v", second)
	}
}
