package conds_test

import (
	"testing"

	"hoarding/api"
	"hoarding/conds"
)

// some are conditions of all kinds, that may stand 3 deep in others; A to C are conditions, P and Q parameters.
func some() row {
	return row{yes(), no(), equals(ref("P"), text("a")), equals(num(1), ref("Q")), equals(ref("P"), ref("Q")), cond("A"), cond("B"), cond("C"), and(yes(), cond("A")), or(cond("B"), no(), no()), not(cond("C")), and(not(cond("B")), or(cond("A"), cond("C")))}
}

// told answers whether the condition holds, where A to C are what bits say.
func told(t *testing.T, c api.Cond, bits int) bool {
	t.Helper()
	if c.Kind == api.CoName {
		c = or(c)
	}
	l := row{is("A", no()), is("B", no()), is("C", no()), is("Z", c)}
	for i := range 3 {
		if bits>>i&1 == 1 {
			l[i] = is(l[i].Name, yes())
		}
	}
	out, e := conds.Run(l, known())
	if e != api.OK {
		t.Fatalf("Run of %s: %d", brief(c), e)
	}
	return out[3].V.Bool
}

// nots answers each of l turned.
func nots(l row) (out row) {
	for _, c := range l {
		out = append(out, not(c))
	}
	return out
}

// P15.3: Not turns; turned twice a condition is what it was.
func TestNotTurns(t *testing.T) {
	for _, c := range some() {
		for bits := range 8 {
			was := told(t, c, bits)
			if told(t, not(c), bits) == was || told(t, not(not(c)), bits) != was || told(t, not(not(not(c))), bits) == was {
				t.Errorf("%s, %d", brief(c), bits)
			}
		}
	}
}

// P15.3: And and Or, turned about by Not.
func TestDeMorgan(t *testing.T) {
	l := some()
	seen := map[bool]int{}
	for i := range l {
		for j := range l {
			for many := 1; many <= 4; many++ {
				parts := row{l[i], l[j], l[(i+j)%len(l)], l[(i+5*j)%len(l)]}[:many]
				for bits := range 8 {
					all, one := told(t, and(parts...), bits), told(t, or(parts...), bits)
					if told(t, not(or(nots(parts)...)), bits) != all || told(t, or(nots(parts)...), bits) == all {
						t.Errorf("And of %s, %d", brief(parts), bits)
					}
					if told(t, not(and(nots(parts)...)), bits) != one || told(t, and(nots(parts)...), bits) == one {
						t.Errorf("Or of %s, %d", brief(parts), bits)
					}
					seen[all]++
					seen[one]++
				}
			}
		}
	}
	if seen[true] < 1000 || seen[false] < 1000 {
		t.Error(seen)
	}
}

// orders answers l in all its orders.
func orders(l row) (out []row) {
	if len(l) == 0 {
		return []row{nil}
	}
	for i := range l {
		rest := append(append(row{}, l[:i]...), l[i+1:]...)
		for _, o := range orders(rest) {
			out = append(out, append(row{l[i]}, o...))
		}
	}
	return out
}

// P15.3: in another order each condition holds as it did; and whether they may be is as it was.
func TestOrders(t *testing.T) {
	for _, l := range []row{
		{is("A", equals(ref("P"), text("a"))), is("B", not(cond("A"))), is("C", or(cond("B"), cond("D"))), is("D", and(cond("A"), equals(ref("Q"), num(1)))), is("E", not(cond("D"))), is("F", and(cond("C"), not(cond("E"))))},
		{is("F", yes()), is("E", no()), is("D", not(cond("F"))), is("C", or(cond("F"), cond("E"), cond("D"))), is("B", equals(ref("P"), ref("Q")))},
		{is("A", equals(ref("U"), text("a"))), is("B", not(cond("A"))), is("C", yes())},
		graph("A:B B:C C:AD D:"), graph("A:B B:C C:D D:E E:F F:"), graph("A:Z B: C:B"), {is("A", yes()), is("9", yes()), is("B", cond("A"))},
	} {
		want := map[string]bool{}
		out, e := conds.Run(l, known())
		for _, g := range out {
			want[g.Name] = g.V.Bool
		}
		for _, o := range orders(l) {
			if f := conds.Check(o, names{"P", "Q", "U"}); f != conds.Check(l, names{"U", "Q", "P"}) {
				t.Errorf("Check of %s: %d", brief(o), f)
			}
			if e != api.OK {
				stops(t, o, known(), e)
				continue
			}
			var holds []bool
			for _, c := range o {
				holds = append(holds, want[c.Name])
			}
			runs(t, o, known(), holds...)
		}
	}
}
