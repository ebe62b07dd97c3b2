package params_test

import (
	"testing"

	"hoarding/api"
	"hoarding/params"
)

// sames asks both ways about.
func sames(t *testing.T, x, y givens, want bool) {
	t.Helper()
	for _, c := range [][2]givens{{x, y}, {y, x}} {
		if got := params.Same(c[0], c[1]); got != want {
			t.Errorf("Same of %s, %s: %v", brief(c[0]), brief(c[1]), got)
		}
	}
}

// as answers a row of one value.
func as(v api.Value) givens { return givens{given("A", v)} }

// strange are values of all kinds, no two of them the same; those that may not be among them.
func strange() []api.Value {
	return []api.Value{
		{}, {Kind: api.Bool}, {Kind: api.Bool, Bool: true}, n(0), n(1), n(api.MaxNumber + 1), a(""), a("a"), a("\xff"), a("\xfe"), a(longest() + "w"),
		list(), list(a("a")), list(a("a"), a("b")), list(a("b"), a("a")), list(list()), list(api.Value{Kind: 9}), list(api.Value{Kind: 8}),
		{Kind: 9}, {Kind: -9}, {Kind: 9, Num: 1}, {Kind: 9, Bool: true}, {Kind: 9, Text: "a"}, {Kind: 9, List: []api.Value{{}}}, {Kind: 9, Keys: []string{"a"}}, {Kind: 9, Keys: []string{"b"}},
		{Num: 1}, {Bool: true}, {Text: "a"}, {List: []api.Value{{}}}, {List: []api.Value{n(1)}}, {Keys: []string{"a"}}, {Keys: []string{"a", "b"}}, {Keys: []string{"b", "a"}},
		object(""), object("a", api.Value{}), object("a b", n(1), n(2)), object("a b", n(2), n(1)), object("a a", n(1), n(2)), object("a a", n(2), n(1)),
		object("a b", n(1), api.Value{Kind: 9}), object("b a", api.Value{Kind: 9}, n(1)), {Kind: api.Object, Keys: []string{"a"}}, {Kind: api.Object, List: []api.Value{{}}},
		deep(api.MaxDeep, n(1)), deep(api.MaxDeep, n(2)), deep(1000, n(1)), deep(1000, n(2)),
	}
}

// P14.1: each value against each: the same ones alone, whether or not they may be.
func TestSameEach(t *testing.T) {
	l := strange()
	for i, v := range l {
		for j, w := range l {
			sames(t, as(v), as(clone(w)), i == j)
			sames(t, givens{given("B", n(1)), given("A", v), unknown("C")}, givens{given("B", n(1)), given("A", clone(w)), unknown("C")}, i == j)
		}
	}
}

// P14.1: values that are equal in another order of keys.
func TestSameEqual(t *testing.T) {
	one, two := object("a b", n(1), n(2)), object("b a", n(2), n(1))
	sames(t, as(one), as(two), true)
	sames(t, as(list(object("x y", one, list(two)))), as(list(object("y x", list(one), two))), true)
	sames(t, as(one), as(object("b a", n(1), n(2))), false)
	sames(t, givens{{Name: "A", Unknown: true, V: one}}, givens{{Name: "A", Unknown: true, V: two}}, true)
	sames(t, givens{{Name: "A", Unknown: true, V: one}}, as(two), false)
}

// P14.1: lists of nothing and none alike, at every depth, whether or not the value may be.
func TestSameNothing(t *testing.T) {
	hollow := func(v api.Value) api.Value { v.List, v.Keys = []api.Value{}, []string{}; return v }
	for _, v := range []api.Value{{}, list(), object(""), n(7), a("a"), {Kind: 9}, {Num: 9}, a("\xff")} {
		sames(t, as(v), as(hollow(v)), true)
		sames(t, as(list(v, v)), as(list(v, hollow(v))), true)
		sames(t, as(list(list(v), api.Value{Kind: 9})), as(list(list(hollow(v)), hollow(api.Value{Kind: 9}))), true)
	}
	sames(t, nil, givens{}, true)
	sames(t, nil, nil, true)
	sames(t, nil, givens{{}}, false)
}

// P14.1: rows of other lengths, names, Unknown; names in another order, and twice.
func TestSameRows(t *testing.T) {
	x := givens{given("A", a("a")), given("B", n(1)), unknown("C")}
	sames(t, x, clone(x), true)
	for _, y := range []givens{
		nil, x[:1], x[:2], x[1:], append(clone(x), api.Given{}),
		{given("A", a("a")), given("B", n(1)), given("C", api.Value{})},
		{given("A", a("a")), given("B", n(1)), unknown("c")},
		{given("A", a("a")), given("B", n(2)), unknown("C")},
		{given("A", a("a")), given("B", a("1")), unknown("C")},
		{given("A", a("b")), given("B", n(1)), unknown("C")},
		{given("", a("a")), given("B", n(1)), unknown("C")},
		{unknown("A"), given("B", n(1)), unknown("C")},
		{{Name: "A", Unknown: true, V: a("a")}, given("B", n(1)), unknown("C")},
		{given("A", a("a")), given("B", n(1)), {Name: "C", Unknown: true, V: n(1)}},
		{given("B", n(1)), given("A", a("a")), unknown("C")},
		{given("A", a("a")), given("A", a("a")), given("B", n(1)), unknown("C")},
	} {
		sames(t, x, y, false)
		sames(t, y, clone(y), true)
	}
}

// R1: Same ends on values that are very deep, very long, or hold themselves.
func TestSameGreat(t *testing.T) {
	const most = 1_000_000
	one, two := deep(most, n(1)), deep(most, n(1))
	sames(t, as(one), as(two), true)
	sames(t, as(one), as(one.List[0]), false)
	long := list(make([]api.Value, most)...)
	sames(t, as(long), as(list(long.List[1:]...)), false)
	sames(t, as(endless()), as(list(n(1), api.Value{}, api.Value{})), false)
	it := endless()
	sames(t, as(it), as(it), true)
	sames(t, make(givens, most), make(givens, most), true)
	sames(t, make(givens, most), make(givens, most-1), false)
}
