package sub_test

import (
	"slices"
	"testing"

	"hoarding/api"
	"hoarding/sub"
)

// P12.2, R4: what is handed in is not changed, what stands behind it neither.
func TestHandedIn(t *testing.T) {
	for _, parts := range []exprs{
		nil,
		{text("a"), ref("B"), text("${x}"), att("C", "Arn")},
		{text("a"), text("b")},
		{ref("A"), text("${")},
		{{Kind: api.ExSub, L: exprs{text("a")}}},
		{{Kind: api.ExText, Text: "a", L: exprs{}}, ref("A")},
	} {
		roomy := append(slices.Clone(parts), text("room"), ref("Room"))
		was := slices.Clone(roomy)
		first, e := sub.Write(roomy[:len(parts)])
		if !slices.EqualFunc(roomy, was, same) {
			t.Errorf("%v became %v", was, roomy)
		}
		// What is changed behind the call changes nothing: neither what was told, nor what a later call tells.
		clear(roomy)
		if again, e2 := sub.Write(was[:len(parts)]); again != first || e2 != e {
			t.Errorf("%q, %d; then %q, %d", first, e, again, e2)
		}
	}
}

// P12.1, R4: what is told can be changed, with the room behind it, and the next call tells the same again.
func TestToldChanged(t *testing.T) {
	for _, s := range []string{"a", "a-${B}-${C.Arn}", "${!x}y${A}${A}", "${A}${B}${C}${D}${E}"} {
		want, _, _ := sub.Lex(s)
		kept := slices.Clone(want)
		other, _, _ := sub.Lex(s)
		for i := range other[:cap(other)] {
			other[:cap(other)][i] = text("spoilt")
		}
		if !slices.EqualFunc(want, kept, same) {
			t.Errorf("%q: what was told became %v", s, want)
		}
		lexes(t, s, kept...)
	}
}

// R3: what was called before changes nothing.
func TestNothingKept(t *testing.T) {
	for range 3 {
		lexes(t, "a${B}", text("a"), ref("B"))
		refuses(t, "${B}${", 4, api.ErrSub)
		lexes(t, "")
		writes(t, "a${B}", text("a"), ref("B"))
		writesNone(t, api.ErrSub, text("${"))
		writes(t, "")
		refuses(t, "\xff", 0, api.ErrText)
	}
}
