package params_test

import (
	"testing"

	"hoarding/api"
	"hoarding/params"
)

// binds wants the values to be bound; and what is bound, bound again, to be the same.
func binds(t *testing.T, l rowOfParams, in givens, want ...api.Given) {
	t.Helper()
	out, name, e := params.Bind(l, in)
	if e != api.OK || name != "" || !same(out, givens(want)) {
		t.Errorf("Bind of %s, %s: %s, %q, %d; not %s", brief(l), brief(in), brief(out), name, e, brief(want))
	}
	if again, name, e := params.Bind(l, out); e != api.OK || name != "" || !params.Same(out, again) || !same(out, again) {
		t.Errorf("Bind of %s, again of %s: %s, %q, %d", brief(l), brief(out), brief(again), name, e)
	}
}

// refuses wants an error, and nothing bound beside it.
func refuses(t *testing.T, l rowOfParams, in givens, want api.Errno, of string) {
	t.Helper()
	if out, name, e := params.Bind(l, in); e != want || name != of || len(out) != 0 {
		t.Errorf("Bind of %s, %s: %s, %q, %d; not %q, %d", brief(l), brief(in), brief(out), name, e, of, want)
	}
}

// P14.2: the chapter's examples.
func TestExamples(t *testing.T) {
	binds(t, rowOfParams{or(text("P"), a("a"))}, nil, given("P", a("a")))
	refuses(t, rowOfParams{number("P", 1, 2)}, givens{given("P", n(3))}, api.ErrParam, "P")
}

// three are parameters, all but the first with a default.
func three() rowOfParams {
	return rowOfParams{text("A"), or(number("B", 1, 2, 3), n(2)), or(text("C"), a("c"))}
}

// P14.2: each parameter in order, what is given ahead of the default.
func TestBind(t *testing.T) {
	binds(t, nil, nil)
	binds(t, rowOfParams{}, givens{})
	binds(t, three(), givens{given("A", a("x"))}, given("A", a("x")), given("B", n(2)), given("C", a("c")))
	binds(t, three(), givens{given("A", a("")), given("B", n(3))}, given("A", a("")), given("B", n(3)), given("C", a("c")))
	binds(t, three(), givens{given("A", a("c")), given("C", a("a"))}, given("A", a("c")), given("B", n(2)), given("C", a("a")))
	binds(t, three(), givens{given("A", a("x")), given("B", n(1)), given("C", a("y"))}, given("A", a("x")), given("B", n(1)), given("C", a("y")))
	for _, v := range words() {
		binds(t, rowOfParams{text("P")}, givens{given("P", v)}, given("P", v))
		binds(t, rowOfParams{or(text("P"), v)}, nil, given("P", v))
		binds(t, rowOfParams{or(text("P"), a("z"))}, givens{given("P", v)}, given("P", v))
	}
	for _, v := range numbers() {
		binds(t, rowOfParams{number("P")}, givens{given("P", v)}, given("P", v))
		binds(t, rowOfParams{or(number("P"), v)}, nil, given("P", v))
		binds(t, rowOfParams{or(number("P"), n(9))}, givens{given("P", v)}, given("P", v))
	}
	l := alphabet(api.MaxParams)
	var in givens
	for _, p := range l {
		in = append(in, given(p.Name, a(p.Name)))
	}
	binds(t, l, in, in...)
}

// P14.2: unknown values, of texts that allow anything; and beside known ones.
func TestBindUnknown(t *testing.T) {
	binds(t, three(), givens{unknown("A")}, unknown("A"), given("B", n(2)), given("C", a("c")))
	binds(t, three(), givens{unknown("A"), given("B", n(1)), unknown("C")}, unknown("A"), given("B", n(1)), unknown("C"))
	refuses(t, three(), givens{unknown("A"), unknown("B"), unknown("C")}, api.ErrParam, "B")
	refuses(t, rowOfParams{number("P")}, givens{unknown("P")}, api.ErrParam, "P")
	refuses(t, rowOfParams{or(text("P", "a"), a("a"))}, givens{unknown("P")}, api.ErrParam, "P")
	// One that has a value beside it is nothing's, and is not let be for the default.
	for _, v := range []api.Value{a("a"), n(1), {Bool: true}, {Text: "a"}, list(a("x"), api.Value{Kind: 9})} {
		beside := api.Given{Name: "P", Unknown: true, V: v}
		refuses(t, rowOfParams{text("P")}, givens{beside}, api.ErrParam, "P")
		refuses(t, rowOfParams{or(text("P"), a("a"))}, givens{beside}, api.ErrParam, "P")
		refuses(t, rowOfParams{text("O"), text("P")}, givens{unknown("O"), beside}, api.ErrParam, "P")
		refuses(t, rowOfParams{text("O"), text("P")}, givens{given("O", n(1)), beside}, api.ErrParam, "O")
	}
}

// P14.2: Check's errors, ahead of all that is wrong with the values.
func TestBindCheck(t *testing.T) {
	ins := []givens{nil, {given("B", a("b")), given("A", a("a"))}, {given("Zz", a("z"))}, {given("A", n(1))}}
	for _, in := range ins {
		for _, p := range wrongs() {
			refuses(t, rowOfParams{p}, in, api.ErrArg, "")
			refuses(t, rowOfParams{text("A"), p}, in, api.ErrArg, "")
		}
		refuses(t, rowOfParams{text("B"), text("A")}, in, api.ErrArg, "")
		refuses(t, rowOfParams{or(text("A"), a("a")), or(text("A"), a("a"))}, in, api.ErrArg, "")
		refuses(t, alphabet(api.MaxParams+1), in, api.ErrLong, "")
		refuses(t, make(rowOfParams, api.MaxParams+1), in, api.ErrLong, "")
		refuses(t, make(rowOfParams, api.MaxParams), in, api.ErrArg, "")
	}
}

// P14.2: names of values that fall, that are alike, ahead of all that is wrong with these.
func TestBindNames(t *testing.T) {
	for _, in := range []givens{
		{given("B", n(1)), given("A", a("a"))},
		{given("A", a("a")), given("A", a("a"))},
		{given("A", a("a")), given("C", a("c")), given("B", n(1))},
		{given("A", a("a")), given("B", n(1)), given("B", n(2))},
		{given("", a("a")), given("", a("a"))},
		{given("Z", a("a")), given("A", a("a"))},
		{given("Z", a("a")), given("Z", a("a"))},
		{given("A", n(1)), given("A", a("a"))},
		{given("A", a("a")), given("Z", a("z")), given("Y", a("y"))},
		make(givens, 100000),
	} {
		refuses(t, three(), in, api.ErrArg, "")
		refuses(t, rowOfParams{text("Q")}, in, api.ErrArg, "")
		refuses(t, nil, in, api.ErrArg, "")
	}
}

// P14.2: names that are no parameter's: the first, ahead of a parameter that is not given, or whose value may not be its.
func TestBindStranger(t *testing.T) {
	refuses(t, nil, givens{given("A", a("a"))}, api.ErrParam, "A")
	refuses(t, nil, givens{given("", a("a"))}, api.ErrParam, "")
	refuses(t, nil, givens{given("\xff", api.Value{})}, api.ErrParam, "\xff")
	for _, in := range []givens{{given("A", a("x"))}, {given("A", n(1))}, {given("B", n(9))}, nil} {
		for _, l := range []givens{{given("D", a("d"))}, {given("D", a("d")), given("E", a("e"))}, {given("D", n(1)), unknown("F"), given("a", a("a"))}} {
			refuses(t, three(), append(clone(in), l...), api.ErrParam, "D")
		}
	}
	refuses(t, three(), givens{given("", a("")), given("A", a("x"))}, api.ErrParam, "")
	refuses(t, three(), givens{given("9", a("")), given("A", a("x")), given("D", a("d"))}, api.ErrParam, "9")
	refuses(t, three(), givens{given("A", a("x")), given("AA", a("x")), given("B", n(1)), given("BB", n(1))}, api.ErrParam, "AA")
	refuses(t, three(), givens{given("A", a("x")), given("B", n(1)), given("C", a("c")), given("CC", a("x"))}, api.ErrParam, "CC")
	refuses(t, three(), givens{given("A", a("x")), given("b", n(1))}, api.ErrParam, "b")
}

// P14.2: parameters that are not given and have no default.
func TestBindNotGiven(t *testing.T) {
	for _, p := range []api.Param{text("P"), number("P"), text("P", "a", "b"), number("P", 1)} {
		refuses(t, rowOfParams{p}, nil, api.ErrParam, "P")
		refuses(t, rowOfParams{p}, givens{}, api.ErrParam, "P")
		refuses(t, rowOfParams{text("O"), p, text("Q")}, givens{given("O", a("")), given("Q", a(""))}, api.ErrParam, "P")
	}
	binds(t, rowOfParams{or(text("P", "a", "b"), a("b"))}, nil, given("P", a("b")))
	binds(t, rowOfParams{or(number("P", 0), n(0))}, nil, given("P", n(0)))
	refuses(t, alphabet(6), givens{given("A", a("")), given("C", a("")), given("E", a("")), given("F", a(""))}, api.ErrParam, "B")
}

// P14.2: values that may not be the parameter's, though it has a default.
func TestBindValues(t *testing.T) {
	for _, v := range others() {
		for _, p := range []api.Param{text("P"), number("P"), or(text("P"), a("a")), or(number("P"), n(1)), text("P", "a"), number("P", 1)} {
			refuses(t, rowOfParams{p}, givens{given("P", v)}, api.ErrParam, "P")
		}
		refuses(t, three(), givens{given("A", a("a")), given("B", v), given("C", a("a"))}, api.ErrParam, "B")
	}
	refuses(t, three(), givens{given("A", n(1))}, api.ErrParam, "A")
	refuses(t, three(), givens{given("A", a("a")), given("B", n(4))}, api.ErrParam, "B")
	refuses(t, three(), givens{given("A", a("a")), given("C", n(4))}, api.ErrParam, "C")
}

// P14.2: of two that are wrong the first, in the parameters' order.
func TestBindFirst(t *testing.T) {
	refuses(t, three(), givens{given("B", n(4))}, api.ErrParam, "A")
	refuses(t, three(), givens{given("B", n(4)), given("C", n(4))}, api.ErrParam, "A")
	refuses(t, three(), givens{given("A", a("a")), given("B", n(4)), given("C", n(4))}, api.ErrParam, "B")
	refuses(t, three(), givens{given("A", n(1)), given("B", n(1)), given("C", n(4))}, api.ErrParam, "A")
	refuses(t, rowOfParams{or(text("A"), a("a")), text("B"), text("C")}, givens{given("C", n(1))}, api.ErrParam, "B")
	refuses(t, rowOfParams{text("A"), number("B"), text("C")}, givens{given("A", a("a")), unknown("B")}, api.ErrParam, "B")
}

// P14.3: what is bound, with fewer given, is bound to the defaults of these; without one it is not.
func TestBindFewer(t *testing.T) {
	l := rowOfParams{or(text("A"), a("a")), text("B"), or(number("C", 1, 2), n(1)), or(text("D"), a("d"))}
	whole, _, e := params.Bind(l, givens{unknown("A"), given("B", a("b")), given("C", n(2)), given("D", a("e"))})
	if e != api.OK {
		t.Fatal(e)
	}
	for set := range 1 << len(l) {
		var fewer, want givens
		for i, p := range l {
			if set>>i&1 == 1 {
				fewer, want = append(fewer, whole[i]), append(want, whole[i])
			} else {
				want = append(want, given(p.Name, p.Default))
			}
		}
		if set>>1&1 == 1 {
			binds(t, l, fewer, want...)
		} else {
			refuses(t, l, fewer, api.ErrParam, "B")
		}
	}
}
