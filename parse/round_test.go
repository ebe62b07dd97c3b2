package parse_test

import (
	"strings"
	"testing"

	"hoarding/api"
	"hoarding/parse"
	"hoarding/print"
	"hoarding/tree"
)

// rounds asks of what Parse took that Print's text is parsed as an equal value, the same one sorted, and that this is printed alike. (Print writes nothing in more bytes than Parse can have read it from, so that Parse takes it.)
func rounds(t *testing.T, v api.Value) {
	t.Helper()
	s, e := print.Print(v)
	if e != api.OK {
		t.Fatalf("Print(%.99v): %d", v, e)
	}
	again, at, e := parse.Parse(s)
	if e != api.OK || at != 0 || !tree.Equal(again, v) || !same(again, tree.Sorted(v)) {
		t.Fatalf("Parse(%.99q): %.99v, %d, %d", s, again, at, e)
	}
	if twice, e := print.Print(again); twice != s || e != api.OK {
		t.Fatalf("Print(%.99v): %.99q, %d", again, twice, e)
	}
}

// P4.4: Parse of Print is the value, sorted.
func TestPrinted(t *testing.T) {
	deep, deepObject := null, null
	for range api.MaxDeep - 1 {
		deep, deepObject = list(deep), object("a", deepObject)
	}
	for _, c := range []struct{ v, want api.Value }{
		{null, null}, {no, no}, {yes, yes},
		{tree.Num(0), tree.Num(0)}, {tree.Num(-12), tree.Num(-12)}, {tree.Num(api.MaxNumber), tree.Num(api.MaxNumber)}, {tree.Num(-api.MaxNumber), tree.Num(-api.MaxNumber)},
		{tree.Text(""), tree.Text("")}, {tree.Text("a\"\\/\b\t\n\f\r\x00\x1f\x7f"), tree.Text("a\"\\/\b\t\n\f\r\x00\x1f\x7f")}, {tree.Text("\u00e9\u20ac\u2028\U0001F600"), tree.Text("\u00e9\u20ac\u2028\U0001F600")},
		{list(), list()}, {nothing(), nothing()}, {deep, deep}, {deepObject, deepObject},
		{list(tree.Num(2), tree.Num(1), null), list(tree.Num(2), tree.Num(1), null)},
		{object("b,a", tree.Num(1), tree.Num(2)), object("a,b", tree.Num(2), tree.Num(1))},
		{object("", yes), object("", yes)},
		{
			object("\u20ac,b,,a,\n", null, object("y,x", list(object("q,p", yes, no)), tree.Num(1)), no, list(), tree.Text("")),
			object(",\n,a,b,\u20ac", no, tree.Text(""), list(), object("x,y", tree.Num(1), list(object("p,q", no, yes))), null),
		},
		// As many bytes as Parse takes.
		{tree.Text(strings.Repeat("a", api.MaxText-2)), tree.Text(strings.Repeat("a", api.MaxText-2))},
		{list(make([]api.Value, (api.MaxText-1)/5)...), list(make([]api.Value, (api.MaxText-1)/5)...)},
	} {
		s, e := print.Print(c.v)
		if e != api.OK {
			t.Fatalf("Print(%.99v): %d", c.v, e)
		}
		if v, at, e := parse.Parse(s); e != api.OK || at != 0 || !same(v, c.want) {
			t.Errorf("Parse(%.99q): %.99v, %d, %d", s, v, at, e)
		}
		rounds(t, c.v)
	}
}

// P4.4: texts that are written otherwise than Print does are parsed as values that are printed, and parsed, as equal ones.
func TestPrintedAgain(t *testing.T) {
	for s, want := range map[string]string{
		" { \"b\" : [ 1 , null ] , \"a\" : \"\" } ":            `{"a":"","b":[1,null]}`,
		`"\u0041\/\u000a\u0008\u001F\ud83d\ude00\u20ac\u0022"`: "\"A/\\n\\b\\u001f\U0001F600\u20ac\\\"\"",
		"[\n]\t":                           "[]",
		"{\r}":                             "{}",
		`{"\u0062":1,"\u0061":2}`:          `{"a":2,"b":1}`,
		`[{"z":{"b":0,"a":[true,false]}}]`: `[{"z":{"a":[true,false],"b":0}}]`,
	} {
		v, _, _ := parse.Parse(s)
		if got, e := print.Print(v); got != want || e != api.OK {
			t.Errorf("Print of Parse(%q): %q, %d", s, got, e)
		}
		rounds(t, v)
	}
	longest := []string{
		`"` + strings.Repeat(`\u0001`, (api.MaxText-2)/6) + `"`, `"` + strings.Repeat(`\"`, (api.MaxText-2)/2) + `"`, `"` + strings.Repeat("\u20ac", (api.MaxText-2)/3) + `"`,
		"[" + strings.Repeat("1,", api.MaxText/2-2) + "1]", "[" + strings.Repeat("-1,", 1000) + "{}]",
	}
	for _, s := range longest {
		v, at, e := parse.Parse(s)
		if e != api.OK || at != 0 {
			t.Fatalf("Parse(%.99q): %d, %d", s, at, e)
		}
		rounds(t, v)
	}
}
