package parse_test

import (
	"strings"
	"testing"

	"hoarding/api"
	"hoarding/parse"
	"hoarding/tree"
)

var (
	null = api.Value{}
	no   = api.Value{Kind: api.Bool}
	yes  = api.Value{Kind: api.Bool, Bool: true}
)

func list(parts ...api.Value) api.Value { return api.Value{Kind: api.List, List: parts} }

// object answers an object of keys, told with commas between, and their values.
func object(keys string, parts ...api.Value) api.Value {
	return api.Value{Kind: api.Object, Keys: strings.Split(keys, ","), List: parts}
}

// nothing is an object without entries.
func nothing() api.Value { return api.Value{Kind: api.Object} }

// same tells whether a and b are the same, field by field (nil and empty lists alike).
func same(a, b api.Value) bool {
	if a.Kind != b.Kind || a.Bool != b.Bool || a.Num != b.Num || a.Text != b.Text || len(a.List) != len(b.List) || len(a.Keys) != len(b.Keys) {
		return false
	}
	for i, key := range a.Keys {
		if key != b.Keys[i] {
			return false
		}
	}
	for i, part := range a.List {
		if !same(part, b.List[i]) {
			return false
		}
	}
	return true
}

// nested answers the text of inner, with so many of open ahead and of end behind.
func nested(open string, n int, inner, end string) string {
	return strings.Repeat(open, n) + inner + strings.Repeat(end, n)
}

// takes asks that s is parsed as want, alone, with blanks around it, and from within another text.
func takes(t *testing.T, s string, want api.Value) {
	t.Helper()
	v, at, e := parse.Parse(s)
	if e != api.OK || at != 0 || !same(v, want) {
		t.Errorf("Parse(%q): %v, %d, %d", s, v, at, e)
	}
	if e := tree.Check(v); e != api.OK {
		t.Errorf("Parse(%q) answers what may not be: %d", s, e)
	}
	rounds(t, v)
	if v, at, e := parse.Parse(" \t\n\r" + s + "\r \n\t"); e != api.OK || at != 0 || !same(v, want) {
		t.Errorf("Parse(%q), with blanks around it: %v, %d, %d", s, v, at, e)
	}
	for _, behind := range []string{"", " ", ",", "]", "}", ":", "\"", "\xff", "x", " 1", "[", "\n\n"} {
		if v, end, e := parse.Value("\"]1"+s+behind, 3, 1); e != api.OK || end != 3+len(s) || !same(v, want) {
			t.Errorf("Value of %q, with %q behind: %v, %d, %d", s, behind, v, end, e)
		}
	}
}

// refuses asks that the first fault of s is e, at that place, for Parse, with blanks ahead, and for Value.
func refuses(t *testing.T, s string, place int, e api.Errno) {
	t.Helper()
	if v, at, got := parse.Parse(s); got != e || at != place || !same(v, null) {
		t.Errorf("Parse(%q): %v, %d, %d", s, v, at, got)
	}
	if v, at, got := parse.Parse("\n " + s); got != e || at != place+2 || !same(v, null) {
		t.Errorf("Parse(%q), with blanks ahead: %v, %d, %d", s, v, at, got)
	}
	if v, at, got := parse.Value("\xff}"+s, 2, 1); got != e || at != place+2 || !same(v, null) {
		t.Errorf("Value of %q: %v, %d, %d", s, v, at, got)
	}
}
