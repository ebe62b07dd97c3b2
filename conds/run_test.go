package conds_test

import (
	"testing"

	"hoarding/api"
	"hoarding/conds"
	"hoarding/tree"
)

// known are parameters' values: P is a, Q is 1; U is not known.
func known() givens {
	return givens{given("P", tree.Text("a")), given("Q", tree.Num(1)), unknown("U")}
}

// runs wants the conditions to hold, or not, in their order.
func runs(t *testing.T, l row, params givens, want ...bool) {
	t.Helper()
	var all givens
	for i, holds := range want {
		all = append(all, given(l[i].Name, api.Value{Kind: api.Bool, Bool: holds}))
	}
	if out, e := conds.Run(l, params); e != api.OK || !same(out, all) {
		t.Errorf("Run of %s, %s: %s, %d; not %v", brief(l), brief(params), brief(out), e, want)
	}
}

// stops wants an error, and nothing beside it.
func stops(t *testing.T, l row, params givens, want api.Errno) {
	t.Helper()
	if out, e := conds.Run(l, params); e != want || len(out) != 0 {
		t.Errorf("Run of %s, %s: %s, %d; not %d", brief(l), brief(params), brief(out), e, want)
	}
}

// holds asks whether a condition holds: as a definition, as a part, and by its name.
func holds(t *testing.T, c api.Cond, want bool) {
	t.Helper()
	runs(t, row{is("A", c)}, known(), want)
	runs(t, row{is("A", not(c)), is("B", and(c)), is("C", or(c)), is("D", not(cond("E"))), is("E", c)}, known(), !want, want, want, !want, want)
}

// wrong asks for a condition that wants an unknown value, wherever it stands.
func wrong(t *testing.T, c api.Cond) {
	t.Helper()
	for _, l := range []row{{is("A", c)}, {is("A", not(c))}, {is("A", yes()), is("B", c)}, {is("A", c), is("B", no())}, {is("A", or(cond("B"), no())), is("B", c)}, {is("B", and(no(), c)), is("A", or(yes(), cond("B")))}} {
		stops(t, l, known(), api.ErrCond)
	}
}

// P15.2: the chapter's example.
func TestExample(t *testing.T) {
	l := row{is("A", equals(ref("P"), text("x"))), is("B", not(cond("A")))}
	runs(t, l, givens{given("P", tree.Text("x"))}, true, false)
	runs(t, l, givens{given("P", tree.Text("y"))}, false, true)
}

// P15.2: Equals, of texts, numbers, parameters' values.
func TestEquals(t *testing.T) {
	for i, x := range []api.Expr{text("a"), text(""), text("b"), text("1"), text("A"), num(1), num(0), num(-1), num(api.MaxNumber), num(-api.MaxNumber)} {
		for j, y := range []api.Expr{text("a"), text(""), text("b"), text("1"), text("A"), num(1), num(0), num(-1), num(api.MaxNumber), num(-api.MaxNumber)} {
			holds(t, equals(x, y), i == j)
		}
		holds(t, equals(ref("P"), x), i == 0)
		holds(t, equals(x, ref("P")), i == 0)
		holds(t, equals(ref("Q"), x), i == 5)
		holds(t, equals(x, ref("Q")), i == 5)
		wrong(t, equals(ref("U"), x))
		wrong(t, equals(x, ref("U")))
	}
	holds(t, equals(ref("P"), ref("P")), true)
	holds(t, equals(ref("Q"), ref("Q")), true)
	holds(t, equals(ref("P"), ref("Q")), false)
	wrong(t, equals(ref("U"), ref("U")))
	wrong(t, equals(ref("U"), ref("P")))
	wrong(t, equals(ref("Q"), ref("U")))
}

// P15.2: values are equal as tree has it: whatever kind they are, none that may not be, not even itself.
func TestEqualsAny(t *testing.T) {
	for i, v := range values() {
		for j, w := range values() {
			want := i == j && tree.Check(v) == api.OK
			runs(t, row{is("A", equals(ref("P"), ref("Q")))}, givens{given("P", v), given("Q", clone(w))}, want)
			runs(t, row{is("A", equals(ref("P"), ref("P")))}, givens{given("P", v), given("P", w)}, tree.Check(v) == api.OK)
		}
	}
	turned := api.Value{Kind: api.Object, Keys: names{"a", "b"}, List: []api.Value{tree.Text("x"), tree.Num(1)}}
	runs(t, row{is("A", equals(ref("P"), ref("Q")))}, givens{given("P", values()[7]), given("Q", turned)}, true)
	// What is unknown has no value, though one stands beside it.
	stops(t, row{is("A", equals(ref("P"), text("a")))}, givens{{Name: "P", Unknown: true, V: tree.Text("a")}}, api.ErrCond)
}

// P15.2: And, Or and Not, of all that hold, of none, of some, at each place.
func TestParts(t *testing.T) {
	for many := 1; many <= 4; many++ {
		for bits := range 1 << many {
			var l, names row
			for i := range many {
				if bits>>i&1 == 1 {
					l, names = append(l, yes()), append(names, cond("Y"))
				} else {
					l, names = append(l, no()), append(names, cond("N"))
				}
			}
			all, none := bits == 1<<many-1, bits == 0
			holds(t, and(l...), all)
			holds(t, or(l...), !none)
			if many == 1 {
				holds(t, not(l...), none)
			}
			for _, d := range []row{{is("A", and(names...)), is("O", or(names...)), is("Y", yes()), is("N", no())}} {
				runs(t, d, nil, all, !none, true, false)
			}
		}
	}
}

// P15.2: all parts are looked at, though one has told already.
func TestAllParts(t *testing.T) {
	odd := equals(ref("U"), text("a"))
	for _, told := range []api.Cond{yes(), no()} {
		wrong(t, and(told, odd))
		wrong(t, or(told, odd))
		wrong(t, and(odd, told))
		wrong(t, or(odd, told))
		wrong(t, and(told, told, told, not(odd)))
		wrong(t, or(told, told, or(told, odd), told))
		wrong(t, not(and(told, not(or(told, odd)))))
		for _, l := range []row{
			{is("A", and(told, cond("B"))), is("B", odd)},
			{is("A", or(told, cond("B"))), is("B", odd)},
			{is("B", odd), is("A", or(told, cond("B")))},
			{is("A", told), is("B", told), is("C", told), is("D", told), is("E", odd), is("F", told)},
		} {
			stops(t, l, known(), api.ErrCond)
		}
	}
}

// P15.2: conditions that are named, ahead and behind, over several ones.
func TestNamed(t *testing.T) {
	runs(t, row{is("A", yes()), is("B", not(cond("A"))), is("C", not(cond("B"))), is("D", not(cond("C")))}, nil, true, false, true, false)
	runs(t, row{is("A", not(cond("B"))), is("B", not(cond("C"))), is("C", not(cond("D"))), is("D", yes())}, nil, false, true, false, true)
	runs(t, row{is("A", and(cond("B"), cond("C"))), is("B", or(cond("D"), cond("E"))), is("C", not(cond("E"))), is("D", equals(ref("P"), text("a"))), is("E", equals(ref("Q"), text("1"))), is("F", and(cond("A"), cond("A"), not(cond("E"))))}, known(), true, true, true, true, false, true)
	runs(t, nil, known())
	runs(t, row{}, nil)
	// Each names the next one as often as may be.
	wide := func(c api.Cond) api.Cond {
		for range 5 {
			c = and(c, c, c, c)
		}
		return c
	}
	runs(t, row{is("A", wide(cond("B"))), is("B", wide(cond("C"))), is("C", wide(cond("D"))), is("D", wide(cond("E"))), is("E", wide(cond("F"))), is("F", wide(equals(ref("P"), text("a"))))}, known(), true, true, true, true, true, true)
}

// P15.2: Check's errors, ahead of a value that is unknown.
func TestRunCheck(t *testing.T) {
	odd := equals(ref("U"), text("a"))
	stops(t, row{is("A", odd), is("A", odd)}, known(), api.ErrTwice)
	stops(t, row{is("A", odd), is("B", yes()), is("B", yes())}, known(), api.ErrTwice)
	stops(t, append(alphabet(6), is("Z", odd)), known(), api.ErrLong)
	for _, c := range faults() {
		stops(t, row{c}, known(), api.ErrCond)
		stops(t, row{is("A", yes()), c, is("A", yes())}, known(), api.ErrCond)
	}
	stops(t, graph("A:B B:A"), known(), api.ErrCond)
	stops(t, row{is("A", equals(ref("R"), text("a")))}, known(), api.ErrCond)
	stops(t, row{is("A", equals(ref("P"), text("a")))}, nil, api.ErrCond)
}

// P15.2: values that no condition wants count for nothing, unknown ones with them; of a name twice the first counts.
func TestRunOthers(t *testing.T) {
	l := row{is("A", equals(ref("P"), text("a"))), is("B", not(cond("A")))}
	for _, params := range []givens{
		known(), {given("P", tree.Text("a"))}, {unknown("Z"), unknown("Z"), given("P", tree.Text("a")), unknown("P"), unknown("")},
		{given("P", tree.Text("a")), given("P", tree.Text("b"))}, {given("A", tree.Text("b")), given("P", tree.Text("a")), unknown("B")}, {given("Z", api.Value{Kind: 9, List: []api.Value{{Kind: -1}}}), given("P", tree.Text("a"))},
		append(make(givens, 100000), given("P", tree.Text("a"))),
	} {
		runs(t, l, params, true, false)
	}
	stops(t, l, givens{unknown("P"), given("P", tree.Text("a"))}, api.ErrCond)
	runs(t, alphabet(6), nil, true, true, true, true, true, true)
	runs(t, alphabet(6), givens{unknown("A")}, true, true, true, true, true, true)
}
