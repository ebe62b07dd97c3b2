package print_test

import (
	"testing"

	"hoarding/api"
	"hoarding/parse"
	"hoarding/print"
	"hoarding/tree"
)

// P5.1: as JSON prints, but for its two ways of line breaks, which are in none of these.
func TestAsJson(t *testing.T) {
	for _, v := range append(small(), great()...) {
		plain, broad := jsonTexts(t, v)
		prints(t, v, plain, broad)
	}
	for _, part := range small() {
		v := object("b,a", list(part, part), object("y,x", part, null))
		plain, broad := jsonTexts(t, v)
		prints(t, v, plain, broad)
	}
}

// readsAs asks that s is parsed as want. (Parse takes no text longer than a template; Value takes it.)
func readsAs(t *testing.T, s string, want api.Value) {
	t.Helper()
	if v, end, e := parse.Value(s, 0, 1); e != api.OK || end != len(s) || !same(v, want) {
		t.Errorf("Value(%.99q): %.99v, %d, %d", s, v, end, e)
	}
	if len(s) > api.MaxText {
		return
	}
	if v, at, e := parse.Parse(s); e != api.OK || at != 0 || !same(v, want) {
		t.Errorf("Parse(%.99q): %.99v, %d, %d", s, v, at, e)
	}
}

// P5.3: Parse of Print, and of Broad, is the value, sorted.
func TestParsed(t *testing.T) {
	for _, v := range append(small(), great()...) {
		s, e := print.Print(v)
		broad, wide := print.Broad(v)
		if e != api.OK || wide != api.OK {
			t.Fatalf("%.99v: Print: %d, Broad: %d", v, e, wide)
		}
		readsAs(t, s, tree.Sorted(v))
		readsAs(t, broad, tree.Sorted(v))
		if again, e := print.Print(tree.Sorted(v)); again != s || e != api.OK {
			t.Errorf("Print of %.99v, sorted: %.99q, %d", v, again, e)
		}
	}
}

// P5.3: equal values print alike, others do not.
func TestAlike(t *testing.T) {
	vs := append(small(), great()...)
	plain, broad := make([]string, len(vs)), make([]string, len(vs))
	for i, v := range vs {
		plain[i], _ = print.Print(v)
		broad[i], _ = print.Broad(v)
	}
	equals := 0
	for i, a := range vs {
		for j, b := range vs[:i] {
			equal := tree.Equal(a, b)
			if equal {
				equals++
			}
			if equal != (plain[i] == plain[j]) || equal != (broad[i] == broad[j]) {
				t.Fatalf("%.99v, %.99v: %v, though %.99q, %.99q", a, b, equal, plain[i], plain[j])
			}
		}
	}
	if equals < 200 {
		t.Errorf("only %d were equal", equals)
	}
}

// R4: what is handed in is not changed, spare room behind it included; R3: the same again is printed alike.
func TestUnchanged(t *testing.T) {
	for _, v := range append(small(), great()...) {
		handed := roomy(v)
		want, _ := print.Print(v)
		wide, _ := print.Broad(v)
		for range 2 {
			if s, _ := print.Print(handed); s != want {
				t.Errorf("Print(%.99v): %.99q", v, s)
			}
			if s, _ := print.Broad(handed); s != wide {
				t.Errorf("Broad(%.99v): %.99q", v, s)
			}
			if n := print.Len(handed); n != len(want) {
				t.Errorf("Len(%.99v): %d", v, n)
			}
		}
		if !same(handed, v) || !untouched(handed) {
			t.Errorf("changed: %.99v", handed)
		}
	}
}

// untouched tells whether the spare room of what roomy answered is as it was.
func untouched(v api.Value) bool {
	for _, part := range v.List {
		if !untouched(part) {
			return false
		}
	}
	return v.List[:len(v.List)+1][len(v.List)].Text == "room" && v.Keys[:len(v.Keys)+1][len(v.Keys)] == "room"
}
