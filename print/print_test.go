package print_test

import (
	"math"
	"strings"
	"testing"

	"hoarding/api"
	"hoarding/print"
	"hoarding/tree"
)

// P5.1: values that have no parts, whose texts are the same, broad or not.
func TestAlone(t *testing.T) {
	for _, c := range []struct {
		v    api.Value
		want string
	}{
		{null, "null"}, {no, "false"}, {yes, "true"},
		{tree.Num(0), "0"}, {tree.Num(7), "7"}, {tree.Num(-12), "-12"}, {tree.Num(100), "100"},
		{tree.Num(api.MaxNumber), "9007199254740992"}, {tree.Num(-api.MaxNumber), "-9007199254740992"},
		{tree.Text(""), `""`}, {tree.Text("a"), `"a"`}, {tree.Text("null"), `"null"`}, {tree.Text("[1,{"), `"[1,{"`}, {tree.Text(" a  b "), `" a  b "`},
		{tree.Text(`"`), `"\""`}, {tree.Text(`\`), `"\\"`}, {tree.Text(`a"b\c/`), `"a\"b\\c/"`},
		{tree.Text("\b\t\n\f\r"), `"\b\t\n\f\r"`}, {tree.Text("\x00\x07\x0b\x1f"), `"\u0000\u0007\u000b\u001f"`},
		{tree.Text(" \x7f<>&'"), "\" \x7f<>&'\""}, {tree.Text("\u0080\u00e9\u07ff"), "\"\u0080\u00e9\u07ff\""}, {tree.Text("\u20ac\u2028\u2029\ufeff\ufffd\uffff"), "\"\u20ac\u2028\u2029\ufeff\ufffd\uffff\""}, {tree.Text("\U00010000\U0001F600\U0010ffff"), "\"\U00010000\U0001F600\U0010ffff\""},
		{list(), "[]"}, {nothing(), "{}"},
		{api.Value{Kind: api.List, List: []api.Value{}, Keys: []string{}}, "[]"},
		{api.Value{Kind: api.Object, List: []api.Value{}, Keys: []string{}}, "{}"},
	} {
		prints(t, c.v, c.want, c.want)
	}
}

// P5.1: lists and objects, those within one another, and their lines.
func TestParts(t *testing.T) {
	for _, c := range []struct {
		v            api.Value
		plain, broad string
	}{
		{list(null), "[null]", "[\n  null\n]"},
		{list(tree.Num(1), tree.Text("a"), yes), `[1,"a",true]`, "[\n  1,\n  \"a\",\n  true\n]"},
		{object("a", tree.Num(1)), `{"a":1}`, "{\n  \"a\": 1\n}"},
		{object("a,b", no, null), `{"a":false,"b":null}`, "{\n  \"a\": false,\n  \"b\": null\n}"},
		{object("", tree.Text("")), `{"":""}`, "{\n  \"\": \"\"\n}"},
		{object("\n,\"", tree.Text("\n"), null), `{"\n":"\n","\"":null}`, "{\n  \"\\n\": \"\\n\",\n  \"\\\"\": null\n}"},
		{object("b,a", list(tree.Num(1), null), tree.Text("")), `{"a":"","b":[1,null]}`, "{\n  \"a\": \"\",\n  \"b\": [\n    1,\n    null\n  ]\n}"},
		{list(list(), nothing(), list(list())), "[[],{},[[]]]", "[\n  [],\n  {},\n  [\n    []\n  ]\n]"},
		{object("a,b", list(), nothing()), `{"a":[],"b":{}}`, "{\n  \"a\": [],\n  \"b\": {}\n}"},
		{list(list(tree.Num(1), list(tree.Num(2))), tree.Num(3)), "[[1,[2]],3]", "[\n  [\n    1,\n    [\n      2\n    ]\n  ],\n  3\n]"},
		{
			object("b,a", object("y,x", tree.Num(1), object("z", list(nothing()))), list(object("q,p", yes, no), null)),
			`{"a":[{"p":false,"q":true},null],"b":{"x":{"z":[{}]},"y":1}}`,
			strings.Join([]string{"{", `  "a": [`, "    {", `      "p": false,`, `      "q": true`, "    },", "    null", "  ],", `  "b": {`, `    "x": {`, `      "z": [`, "        {}", "      ]", "    },", `    "y": 1`, "  }", "}"}, "\n"),
		},
		// Keys rise by their bytes.
		{
			object("b,\U00010000,aa,Z,\uffff,9,,10,a,\u00e9", tree.Num(0), tree.Num(1), tree.Num(2), tree.Num(3), tree.Num(4), tree.Num(5), tree.Num(6), tree.Num(7), tree.Num(8), tree.Num(9)),
			"{\"\":6,\"10\":7,\"9\":5,\"Z\":3,\"a\":8,\"aa\":2,\"b\":0,\"\u00e9\":9,\"\uffff\":4,\"\U00010000\":1}",
			"{\n  \"\": 6,\n  \"10\": 7,\n  \"9\": 5,\n  \"Z\": 3,\n  \"a\": 8,\n  \"aa\": 2,\n  \"b\": 0,\n  \"\u00e9\": 9,\n  \"\uffff\": 4,\n  \"\U00010000\": 1\n}",
		},
		// As they are, not as they are written: " stands ahead of A, \" behind it.
		{object("A,\",\\,\n", tree.Num(1), tree.Num(2), tree.Num(3), tree.Num(4)), `{"\n":4,"\"":2,"A":1,"\\":3}`, "{\n  \"\\n\": 4,\n  \"\\\"\": 2,\n  \"A\": 1,\n  \"\\\\\": 3\n}"},
	} {
		prints(t, c.v, c.plain, c.broad)
	}
}

// P5.1: as deep as may be.
func TestDeepest(t *testing.T) {
	const n = api.MaxDeep - 1
	broad, end := "", "\n]"
	for i := range n {
		broad += "[\n" + strings.Repeat("  ", i+1)
		if i > 0 {
			end = "\n" + strings.Repeat("  ", i) + "]" + end
		}
	}
	prints(t, within(n, tree.Num(5), list()), strings.Repeat("[", n)+"5"+strings.Repeat("]", n), broad+"5"+end)
	prints(t, within(n, list(), list()), strings.Repeat("[", n+1)+strings.Repeat("]", n+1), broad+"[]"+end)
	s, e := print.Print(within(n, no, object("a")))
	if want := strings.Repeat(`{"a":`, n) + "false" + strings.Repeat("}", n); s != want || e != api.OK {
		t.Errorf("%q, %d", s, e)
	}
}

// fillers answers functions that put a text into a value, of which each byte is one byte more in what is printed.
func fillers() map[string]func(s string) api.Value {
	few := func(s string) api.Value { return object("z,b,a", tree.Text(s), list(yes, tree.Num(-10)), nothing()) }
	return map[string]func(s string) api.Value{
		"a text":             tree.Text,
		"a list's text":      func(s string) api.Value { return list(tree.Text(s)) },
		"its last one":       func(s string) api.Value { return list(null, list(), tree.Text(s)) },
		"its first one":      func(s string) api.Value { return list(tree.Text(s), null, list(tree.Num(1), nothing())) },
		"a key":              func(s string) api.Value { return object("x"+s, null) },
		"the first key":      func(s string) api.Value { return object("b,a"+s, tree.Num(1), tree.Num(2)) },
		"among others":       few,
		"deep":               func(s string) api.Value { return within(api.MaxDeep-3, few(s), object("k")) },
		"behind many":        func(s string) api.Value { return list(append(make([]api.Value, 500), tree.Text(s))...) },
		"ahead of many":      func(s string) api.Value { return list(append([]api.Value{tree.Text(s)}, make([]api.Value, 500)...)...) },
		"with a long sister": func(s string) api.Value { return list(tree.Text(strings.Repeat("x", 30000)), tree.Text(s)) },
	}
}

// P5.1: texts of exactly as many bytes as may be, and of one more.
func TestLongest(t *testing.T) {
	for name, fill := range fillers() {
		for which, call := range map[string]func(api.Value) (string, api.Errno){"Print": print.Print, "Broad": print.Broad} {
			bare, _ := call(fill(""))
			room := longest - len(bare)
			if s, e := call(fill(strings.Repeat("a", room))); len(s) != longest || e != api.OK {
				t.Errorf("%s, %s: %d bytes, %d", which, name, len(s), e)
			}
			for _, more := range []int{1, 2, 3, 10, longest, 1 << 20} {
				if s, e := call(fill(strings.Repeat("a", room+more))); s != "" || e != api.ErrLong {
					t.Errorf("%s, %s, %d more: %d bytes, %d", which, name, more, len(s), e)
				}
			}
		}
		bare, _ := print.Print(fill(""))
		room := longest - len(bare)
		if n := print.Len(fill(strings.Repeat("a", room))); n != longest {
			t.Errorf("Len, %s: %d", name, n)
		}
		if n := print.Len(fill(strings.Repeat("a", room+1))); n != 0 {
			t.Errorf("Len, %s, 1 more: %d", name, n)
		}
	}
}

// P5.1: it is the bytes as they are written that are counted.
func TestLongestWritten(t *testing.T) {
	for s, size := range map[string]int{"a": 1, "\"": 2, "\\": 2, "\n": 2, "\x01": 6, "\u00e9": 2, "\u20ac": 3} {
		n := (longest - 2) / size
		full := strings.Repeat(s, n) + strings.Repeat("a", longest-2-n*size)
		if got, e := print.Print(tree.Text(full)); len(got) != longest || e != api.OK {
			t.Errorf("Print, %q: %d bytes, %d", s, len(got), e)
		}
		if got, e := print.Broad(tree.Text(full)); len(got) != longest || e != api.OK {
			t.Errorf("Broad, %q: %d bytes, %d", s, len(got), e)
		}
		if got := print.Len(tree.Text(full)); got != longest {
			t.Errorf("Len, %q: %d", s, got)
		}
		refuses(t, "one byte more", tree.Text(full+"a"), api.ErrLong)
		refuses(t, "one rune more", tree.Text(full+s), api.ErrLong)
	}
}

// P5.1: many short parts; and where Broad's text is too long, though Print's is not.
func TestManyParts(t *testing.T) {
	// A text of 6 bytes and a comma; a list of n has 7 n + 1 bytes, and broad 10 n + 2.
	word := tree.Text("word")
	for _, c := range []struct{ n, plain, broad int }{{0, 2, 2}, {1, 8, 12}, {2, 15, 22}, {3276, 22933, 32762}, {3277, 22940, 0}, {api.MaxText - 1, 28666, 0}} {
		v := list()
		for range c.n {
			v.List = append(v.List, word)
		}
		s, e := print.Print(v)
		if len(s) != c.plain || e != api.OK || print.Len(v) != c.plain {
			t.Errorf("Print of %d: %d bytes, %d; Len: %d", c.n, len(s), e, print.Len(v))
		}
		asked := api.OK
		if c.broad == 0 {
			asked = api.ErrLong
		}
		if s, e := print.Broad(v); len(s) != c.broad || e != asked {
			t.Errorf("Broad of %d: %d bytes, %d", c.n, len(s), e)
		}
	}
	full := list(tree.Text(strings.Repeat("a", longest-4)))
	if s, e := print.Print(full); len(s) != longest || e != api.OK || print.Len(full) != longest {
		t.Errorf("Print: %d bytes, %d; Len: %d", len(s), e, print.Len(full))
	}
	if s, e := print.Broad(full); s != "" || e != api.ErrLong {
		t.Errorf("Broad: %d bytes, %d", len(s), e)
	}
	deep := within(api.MaxDeep-2, list(make([]api.Value, 1000)...), list())
	if s, e := print.Print(deep); len(s) != 5045 || e != api.OK || print.Len(deep) != 5045 {
		t.Errorf("Print: %d bytes, %d; Len: %d", len(s), e, print.Len(deep))
	}
	if s, e := print.Broad(deep); s != "" || e != api.ErrLong {
		t.Errorf("Broad: %d bytes, %d", len(s), e)
	}
}

// P5.1, R1: one long text that stands in each part is not put together as often.
func TestFarTooLong(t *testing.T) {
	long := tree.Text(strings.Repeat("\x01", 10000))
	v := list()
	for range api.MaxText - 1 {
		v.List = append(v.List, long)
	}
	refuses(t, "many long texts", v, api.ErrLong)
	refuses(t, "a text of many bytes", tree.Text(strings.Repeat("a", 1<<22)), api.ErrLong)
}

// P5.1: values that may not be, with tree.Check's error.
func TestRefuses(t *testing.T) {
	endless := list(null)
	endless.List[0] = endless
	for name, c := range map[string]struct {
		v api.Value
		e api.Errno
	}{
		"a kind below":             {api.Value{Kind: -1}, api.ErrArg},
		"a kind above":             {api.Value{Kind: api.Object + 1}, api.ErrArg},
		"the least kind":           {api.Value{Kind: math.MinInt8}, api.ErrArg},
		"the greatest kind":        {api.Value{Kind: math.MaxInt8}, api.ErrArg},
		"null with a text":         {api.Value{Text: "a"}, api.ErrArg},
		"a text with a number":     {api.Value{Kind: api.Text, Num: 1}, api.ErrArg},
		"a number with parts":      {api.Value{Kind: api.Number, List: []api.Value{null}}, api.ErrArg},
		"a list with keys":         {api.Value{Kind: api.List, List: []api.Value{null}, Keys: []string{"a"}}, api.ErrArg},
		"a key too few":            {object("a", null, null), api.ErrArg},
		"a key too many":           {object("a,b", null), api.ErrArg},
		"keys alone":               {object("a"), api.ErrArg},
		"no keys":                  {api.Value{Kind: api.Object, List: []api.Value{null}}, api.ErrArg},
		"a number above":           {tree.Num(api.MaxNumber + 1), api.ErrNumber},
		"a number below":           {tree.Num(-api.MaxNumber - 1), api.ErrNumber},
		"the greatest number":      {tree.Num(math.MaxInt), api.ErrNumber},
		"the least number":         {tree.Num(math.MinInt), api.ErrNumber},
		"no text":                  {tree.Text("\xff"), api.ErrText},
		"half a pair":              {tree.Text("\xed\xa0\x80"), api.ErrText},
		"a text that breaks off":   {tree.Text("ab\xe2\x82"), api.ErrText},
		"a key that's no text":     {object("\xff", null), api.ErrText},
		"a key twice":              {object("a,a", null, null), api.ErrTwice},
		"the empty key twice":      {object(",b,", null, null, null), api.ErrTwice},
		"too many":                 {list(make([]api.Value, api.MaxText)...), api.ErrLong},
		"too deep":                 {within(api.MaxDeep, null, list()), api.ErrDeep},
		"objects too deep":         {within(api.MaxDeep, null, object("a")), api.ErrDeep},
		"far too deep":             {within(100000, null, list()), api.ErrDeep},
		"endless":                  {endless, api.ErrDeep},
		"no text, ahead of a kind": {list(tree.Text("\xff"), api.Value{Kind: 9}), api.ErrText},
		"a kind, ahead of no text": {list(api.Value{Kind: 9}, tree.Text("\xff")), api.ErrArg},
		"a number, too many":       {list(append(make([]api.Value, api.MaxText), tree.Num(math.MaxInt))...), api.ErrNumber},
		// What may not be goes ahead of what is too long.
		"a long text, a number": {list(tree.Text(strings.Repeat("a", longest)), tree.Num(math.MaxInt)), api.ErrNumber},
		"a long text, no text":  {tree.Text(strings.Repeat("a", longest) + "\xff"), api.ErrText},
		"a long text, a kind":   {object("a,b", tree.Text(strings.Repeat("a", longest)), api.Value{Kind: 9}), api.ErrArg},
		"a long text, deep":     {list(tree.Text(strings.Repeat("a", longest)), within(api.MaxDeep, null, list())), api.ErrDeep},
	} {
		if e := tree.Check(c.v); e != c.e {
			t.Fatalf("%s: Check answers %d", name, e)
		}
		refuses(t, name, c.v, c.e)
		for where, v := range map[string]api.Value{"in a list": list(null, c.v, null), "in an object": object("b,a", c.v, yes)} {
			refuses(t, name+", "+where, v, c.e)
		}
	}
}

// P5.2: Word.
func TestWord(t *testing.T) {
	for _, s := range []string{
		"", "a", " ", "\x00", "\n", "\"\\", "a.b-c", "\u20ac", "\U0010ffff", "\ufffd",
		strings.Repeat("a", api.MaxWord-1), strings.Repeat("a", api.MaxWord), strings.Repeat("\x01", api.MaxWord), strings.Repeat("\"", api.MaxWord),
		strings.Repeat("\u00e9", api.MaxWord/2), strings.Repeat("\u20ac", api.MaxWord/3) + "a", strings.Repeat("\U0001F600", api.MaxWord/4),
	} {
		if !print.Word(s) {
			t.Errorf("%q may be", s)
		}
	}
	for _, s := range []string{
		"\xff", "\x80", "a\xe2\x82", "\xc0\x80", "\xed\xa0\x80", "\xf4\x90\x80\x80", strings.Repeat("a", api.MaxWord-1) + "\xff", "\xff" + strings.Repeat("a", api.MaxWord),
		strings.Repeat("a", api.MaxWord+1), strings.Repeat("a", 1<<20), strings.Repeat("\u00e9", api.MaxWord/2) + "a", strings.Repeat("\u20ac", api.MaxWord/3+1), strings.Repeat("\U0001F600", api.MaxWord/4+1),
	} {
		if print.Word(s) {
			t.Errorf("%q may not be", s)
		}
	}
}
