package conds_test

import (
	"math"
	"strconv"
	"testing"

	"hoarding/api"
	"hoarding/conds"
)

// namesAre wants the condition to name those, in that order; a definition of it, too.
func namesAre(t *testing.T, c api.Cond, want ...string) {
	t.Helper()
	if got := conds.Names(c); !same(got, names(want)) {
		t.Errorf("Names of %s: %q, not %q", brief(c), got, want)
	}
}

// P15.1: none, one, one twice, several, nested ones, in order.
func TestNames(t *testing.T) {
	namesAre(t, yes())
	namesAre(t, is("A", yes()))
	namesAre(t, equals(ref("A"), ref("B")))
	namesAre(t, is("A", and(yes(), not(or(no(), equals(ref("B"), num(1)))))))
	namesAre(t, not(cond("A")), "A")
	namesAre(t, is("B", not(cond("A"))), "A")
	namesAre(t, is("A", not(cond("A"))), "A")
	namesAre(t, and(cond("B"), cond("A")), "B", "A")
	namesAre(t, or(cond("A"), cond("A")), "A")
	namesAre(t, or(cond("B"), cond("A"), cond("B"), cond("A")), "B", "A")
	namesAre(t, and(or(cond("C"), cond("A")), cond("B"), not(cond("C"))), "C", "A", "B")
	namesAre(t, and(cond("D"), or(yes(), and(cond("C"), not(cond("B"))), cond("D")), not(not(cond("A")))), "D", "C", "B", "A")
	namesAre(t, and(and(and(and(and(cond("E"), cond("D")), cond("C")), cond("B")), cond("A")), cond("F")), "E", "D", "C", "B", "A", "F")
	namesAre(t, naming("Z", "A", "B", "C", "D", "E", "F", "G", "B", "H"), "A", "B", "C", "D", "E", "F", "G", "H")
	namesAre(t, cond("A"), "A")
}

// P15.1: of conditions that may not be: names that are none, and any number of parts.
func TestNamesAny(t *testing.T) {
	namesAre(t, cond(""), "")
	namesAre(t, or(cond("9"), cond(""), cond("\xff"), cond(""), cond("9")), "9", "", "\xff")
	namesAre(t, and())
	namesAre(t, not(cond("B"), cond("A")), "B", "A")
	namesAre(t, api.Cond{Kind: 9, Name: "A"})
	var many row
	var want names
	for i := range 1000 {
		name := "N" + strconv.Itoa(i)
		many, want = append(many, cond(name), cond("N500")), append(want, name)
	}
	// N500 stands behind N0 already.
	want = append(append(append(names{}, want[0], "N500"), want[1:500]...), want[501:]...)
	namesAre(t, and(many...), want...)
	for kind := math.MinInt8; kind <= math.MaxInt8; kind++ {
		if c := (api.Cond{Kind: int8(kind), Name: "A", A: ref("B"), B: ref("C")}); c.Kind == api.CoName {
			namesAre(t, c, "A")
		} else {
			namesAre(t, c)
		}
	}
}

// P15.1: what is within a condition is named, whatever its kind is.
func TestNamesWithin(t *testing.T) {
	for _, kind := range []int8{api.CoEquals, api.CoAnd, api.CoOr, api.CoNot, 9, -1} {
		namesAre(t, api.Cond{Kind: kind, Name: "A", L: row{cond("C"), not(cond("B"))}}, "C", "B")
	}
	namesAre(t, api.Cond{Kind: api.CoName, Name: "A", L: row{cond("C"), cond("A"), cond("B")}}, "A", "C", "B")
}

// P15.1: it ends, however deep the condition is, however often a list stands in it, and though it holds itself.
func TestNamesEnds(t *testing.T) {
	namesAre(t, and(deep(300000, cond("B")), cond("A")), "B", "A")
	c := and(cond("B"), cond("A"))
	for range 100 {
		c = or(c, c, cond("C"))
	}
	namesAre(t, c, "B", "A", "C")
	namesAre(t, endless(), "E")
	// One list, longer where it stands for the second time.
	l := row{cond("A"), cond("B"), cond("C")}
	namesAre(t, and(and(l[:1]...), and(l[:2]...), cond("D"), and(l[:1]...), and(l...)), "A", "B", "D", "C")
}
