package conds_test

import (
	"math"
	"slices"
	"testing"

	"hoarding/api"
	"hoarding/conds"
	"hoarding/tree"
)

// checks asks Check; and Run, which tells the same error, or none that is Check's.
func checks(t *testing.T, l row, params names, want api.Errno) {
	t.Helper()
	if e := conds.Check(l, params); e != want {
		t.Errorf("Check of %s, %q: %d, not %d", brief(l), params, e, want)
	}
	var in givens
	for _, name := range params {
		in = append(in, given(name, tree.Text("a")))
	}
	out, e := conds.Run(l, in)
	if e != want || e != api.OK && len(out) != 0 || e == api.OK && len(out) != len(l) {
		t.Errorf("Run of %s, %q: %s, %d, not %d", brief(l), params, brief(out), e, want)
	}
}

// may asks whether the condition, which is no deeper than 3, may be a part of others, where conditions A and B and a parameter P are; and alone, if it has no name of its own.
func may(t *testing.T, c api.Cond, want bool) {
	t.Helper()
	e := api.ErrCond
	if want {
		e = api.OK
	}
	others := row{is("A", yes()), is("B", no())}
	for _, d := range []api.Cond{and(c), or(yes(), c, no()), not(c), and(yes(), not(or(no(), no(), c))), not(deep(2, and(yes(), yes(), yes(), c)))} {
		checks(t, append(slices.Clone(others), is("C", d)), names{"P"}, e)
	}
	if c.Name == "" {
		checks(t, append(slices.Clone(others), is("C", c)), names{"P"}, e)
		checks(t, append(row{is("C", c)}, others...), names{"P"}, e)
	}
}

// P15.1: none, and one of each kind.
func TestCheck(t *testing.T) {
	checks(t, nil, nil, api.OK)
	checks(t, row{}, names{}, api.OK)
	checks(t, nil, names{"P", "P", "9", ""}, api.OK)
	checks(t, row{is("A", equals(ref("P"), text("x"))), is("B", not(cond("A")))}, names{"P"}, api.OK)
	for _, c := range []api.Cond{yes(), equals(text(""), text("")), equals(num(1), text("a")), equals(ref("P"), ref("P")), and(yes()), or(no()), not(yes()), and(cond("A"), cond("A")), or(cond("B"), not(cond("A"))), {L: row{}, A: api.Expr{L: exprs{}}}} {
		may(t, c, true)
	}
	for _, c := range []api.Cond{cond("A"), and(cond("A")), or(cond("B")), not(cond("A")), or(not(cond("B")))} {
		may(t, c, true)
	}
}

// P15.1: And and Or of none, one, up to five; Not of none, one, two.
func TestCheckParts(t *testing.T) {
	for many := range 7 {
		var l row
		for range many {
			l = append(l, yes())
		}
		may(t, and(l...), many >= 1 && many <= 4)
		may(t, or(l...), many >= 1 && many <= 4)
		may(t, not(l...), many == 1)
		for i := range many {
			l[i] = cond("None")
			may(t, and(l...), false)
			may(t, or(l...), false)
			may(t, not(l...), false)
			l[i] = cond("B")
		}
		may(t, and(l...), many >= 1 && many <= 4)
		may(t, or(l...), many >= 1 && many <= 4)
		may(t, not(l...), many == 1)
	}
	may(t, and(make(row, 100000)...), false)
	may(t, api.Cond{Kind: api.CoAnd, L: row{}}, false)
}

// P15.1: kinds that are none, whatever their fields are.
func TestCheckKinds(t *testing.T) {
	for kind := math.MinInt8; kind <= math.MaxInt8; kind++ {
		for _, c := range []api.Cond{{}, yes(), and(yes()), equals(ref("P"), num(1)), or(yes(), no())} {
			c.Kind = int8(kind)
			if c.Kind < api.CoEquals || c.Kind > api.CoName {
				may(t, c, false)
				c.Name = "A"
				checks(t, row{c}, names{"P"}, api.ErrCond)
			}
		}
	}
}

// oddConds are c with something in a field that its kind does not name, field by field; of A and B each field of theirs.
func oddConds(c api.Cond) (l row) {
	if c.Kind != api.CoEquals {
		for _, x := range append(oddExprs(api.Expr{}), num(0), ref(""), ref("P"), api.Expr{Kind: api.ExList}) {
			d := c
			d.A = x
			l = append(l, d)
			d = c
			d.B = x
			l = append(l, d)
		}
	}
	if c.Kind == api.CoEquals || c.Kind == api.CoName {
		for _, parts := range []row{{{}}, {yes()}, {cond("A"), cond("B")}} {
			d := c
			d.L = parts
			l = append(l, d)
		}
	}
	return l
}

// P15.1: of each kind fields that it does not name and that are not zero, alone and within others.
func TestCheckFields(t *testing.T) {
	odd := 0
	for _, c := range []api.Cond{{}, yes(), equals(ref("P"), num(1)), and(yes()), and(yes(), no(), cond("A"), cond("B")), or(no()), not(cond("A"))} {
		for _, d := range oddConds(c) {
			may(t, d, false)
			checks(t, row{is("C", d)}, names{"P"}, api.ErrCond)
			odd++
		}
		// A part has no name.
		for _, name := range []string{"A", "C", "D", "P", "9", "\xff"} {
			may(t, is(name, c), false)
		}
		c.A.L, c.B.L = exprs{}, exprs{}
		may(t, c, true)
	}
	for _, d := range oddConds(cond("A")) {
		may(t, d, false)
		odd++
	}
	if odd != 3*3+4*20+23 {
		t.Error(odd)
	}
	c := cond("A")
	c.L, c.A.L, c.B.L = row{}, exprs{}, exprs{}
	checks(t, row{is("A", yes()), is("B", not(c))}, nil, api.OK)
}

// P15.1: just as deep as may be, and one deeper; far deeper; without an end.
func TestCheckDeep(t *testing.T) {
	for _, bottom := range []api.Cond{yes(), equals(ref("P"), num(1)), cond("Z")} {
		for levels := 2; levels <= 9; levels++ {
			e := api.OK
			if levels > 6 {
				e = api.ErrCond
			}
			for _, c := range []api.Cond{deep(levels, bottom), and(yes(), no(), deep(levels-1, bottom)), or(deep(levels-1, bottom), yes(), yes(), yes()), and(deep(levels-1, bottom), deep(levels-1, bottom))} {
				checks(t, row{is("A", c), is("Z", yes())}, names{"P"}, e)
				checks(t, row{is("Z", yes()), is("A", c)}, names{"P"}, e)
			}
		}
	}
	// A condition that is named counts nothing.
	checks(t, row{is("A", deep(6, cond("B"))), is("B", deep(6, cond("C"))), is("C", deep(6, yes()))}, nil, api.OK)
	checks(t, row{is("A", deep(300000, yes()))}, nil, api.ErrCond)
	checks(t, row{is("A", endless())}, nil, api.ErrCond)
	checks(t, row{is("A", not(endless()))}, nil, api.ErrCond)
	// As many parts as may be, as deep as may be.
	c := equals(ref("P"), text("a"))
	for range 5 {
		c = and(c, c, c, c)
	}
	checks(t, row{is("A", c), is("B", c), is("C", c), is("D", c), is("E", c), is("F", c)}, names{"P"}, api.OK)
}

// P15.1: a definition with no name, one that is none, one that is a CoName.
func TestCheckNames(t *testing.T) {
	for _, name := range noNames() {
		checks(t, row{is(name, yes())}, nil, api.ErrCond)
		checks(t, row{is("A", yes()), is(name, no())}, names{name}, api.ErrCond)
	}
	for _, name := range []string{"A", "z", "A9", "P", longName(api.MaxName)} {
		checks(t, row{is(name, yes())}, nil, api.OK)
		checks(t, row{is(name, not(equals(ref("P"), text("a"))))}, names{"P"}, api.OK)
	}
	checks(t, row{cond("A")}, nil, api.ErrCond)
	checks(t, row{is("B", yes()), cond("A")}, names{"A"}, api.ErrCond)
	checks(t, row{cond("A"), is("B", not(cond("A")))}, nil, api.ErrCond)
	checks(t, row{is("A", yes()), cond("A")}, nil, api.ErrTwice)
}

// P15.1: conditions that are named ahead, behind, of itself, of none.
func TestCheckRefers(t *testing.T) {
	for _, wrap := range []func(api.Cond) api.Cond{
		func(c api.Cond) api.Cond { return not(c) },
		func(c api.Cond) api.Cond { return and(yes(), c) },
		func(c api.Cond) api.Cond { return or(yes(), not(and(no(), c))) },
	} {
		checks(t, row{is("A", yes()), is("B", wrap(cond("A")))}, nil, api.OK)
		checks(t, row{is("A", wrap(cond("B"))), is("B", yes())}, nil, api.OK)
		checks(t, row{is("A", wrap(cond("C"))), is("B", wrap(cond("A"))), is("C", yes())}, nil, api.OK)
		for _, name := range append(noNames(), "a", "C", "P", "AB") {
			checks(t, row{is("A", wrap(cond(name))), is("B", yes())}, names{"P"}, api.ErrCond)
			checks(t, row{is("B", yes()), is("A", wrap(cond(name)))}, names{"P"}, api.ErrCond)
		}
		// What leads back to itself.
		checks(t, row{is("A", wrap(cond("A")))}, nil, api.ErrCond)
		checks(t, row{is("B", yes()), is("A", wrap(cond("A")))}, nil, api.ErrCond)
		checks(t, row{is("A", wrap(cond("B"))), is("B", wrap(cond("A")))}, nil, api.ErrCond)
		checks(t, row{is("A", wrap(cond("B"))), is("B", yes()), is("C", wrap(cond("D"))), is("D", wrap(cond("C")))}, nil, api.ErrCond)
	}
	// A condition is no parameter, and the other way about.
	checks(t, row{is("A", equals(ref("B"), num(1))), is("B", yes())}, nil, api.ErrCond)
	checks(t, row{is("A", not(cond("P")))}, names{"P"}, api.ErrCond)
	checks(t, row{is("P", not(equals(ref("P"), num(1)))), is("A", not(cond("P")))}, names{"P"}, api.OK)
}

// P15.1: none, up to as many as may be, one more; one more, of which one may not be.
func TestCheckMany(t *testing.T) {
	for i := range api.MaxConds {
		checks(t, alphabet(i+1), nil, api.OK)
	}
	for i := range api.MaxConds + 1 {
		l := alphabet(api.MaxConds + 1)
		checks(t, l, nil, api.ErrLong)
		for _, c := range []api.Cond{{}, is("A", yes()), is("9", yes()), is("Z", not(cond("Z"))), is("Z", deep(7, yes())), is("Z", endless())} {
			l := slices.Clone(l)
			l[i] = c
			checks(t, l, nil, api.ErrLong)
		}
	}
	checks(t, make(row, api.MaxConds+1), nil, api.ErrLong)
	checks(t, make(row, 100000), nil, api.ErrLong)
	checks(t, make(row, api.MaxConds), nil, api.ErrCond)
}

// faults are definitions that may not be, of none of the first letters' names.
func faults() row {
	return row{{}, is("9", yes()), is("", yes()), cond("Z"), is("Z", and()), is("Z", not(cond("Y"))), is("Z", equals(ref("R"), num(1))), is("Z", equals(text("\xff"), num(1))), is("Z", deep(7, yes())), is("Z", api.Cond{Kind: 9})}
}

// P15.1: a name twice, beside another fault ahead of it, behind it, and of its own.
func TestCheckTwice(t *testing.T) {
	for i := range 5 {
		for j := range i {
			twice := alphabet(5)
			twice[i].Name = twice[j].Name
			checks(t, twice, nil, api.ErrTwice)
			for at := range 6 {
				beside := func(c api.Cond) row { return slices.Insert(slices.Clone(twice), at, c) }
				checks(t, beside(is("Z", not(cond(twice[j].Name)))), nil, api.ErrTwice)
				for _, c := range faults() {
					want := api.ErrTwice
					if at <= i {
						want = api.ErrCond
					}
					checks(t, beside(c), nil, want)
				}
			}
			for _, c := range faults() {
				twice[i] = is(twice[j].Name, c)
				checks(t, twice, nil, api.ErrTwice)
			}
		}
	}
	// One whose name is none is told where it stands first.
	checks(t, row{is("", yes()), is("", yes())}, nil, api.ErrCond)
	checks(t, row{is("A", yes()), is("9", yes()), is("9", yes())}, nil, api.ErrCond)
	// The name of a condition that stands twice is there.
	checks(t, row{is("B", not(cond("A"))), is("A", yes()), is("A", yes())}, nil, api.ErrTwice)
	checks(t, row{is("B", not(cond("A"))), is("A", not(cond("C"))), is("A", yes())}, nil, api.ErrCond)
}

// P15.1: a fault beside a circle, which tells last.
func TestCheckCircle(t *testing.T) {
	for _, words := range []string{"A:A", "A:B B:A", "A: B:C C:D D:B", "A:B B:C C:A", "A:A B:B", "A:B B:B", "A:BCDEF B:CDEF C:DEF D:EF E:F F:A"} {
		l := graph(words)
		checks(t, l, nil, api.ErrCond)
		if len(l) == api.MaxConds {
			continue
		}
		for at := range len(l) + 1 {
			checks(t, slices.Insert(slices.Clone(l), at, is("Y", yes())), nil, api.ErrCond)
			checks(t, slices.Insert(slices.Clone(l), at, l[0]), nil, api.ErrTwice)
			for _, c := range faults() {
				checks(t, slices.Insert(slices.Clone(l), at, c), nil, api.ErrCond)
			}
		}
	}
	checks(t, graph("A:BCDEF B:CDEF C:DEF D:EF E:F F:"), nil, api.OK)
}
