package params_test

import (
	"slices"
	"testing"

	"hoarding/api"
	"hoarding/params"
)

// fits asks whether v may be p's value, under names that count for nothing.
func fits(t *testing.T, p api.Param, g api.Given, want bool) {
	t.Helper()
	for _, name := range []string{p.Name, "", "Q", "9", "\xff"} {
		g.Name = name
		if got := params.May(p, g); got != want {
			t.Errorf("May of %s, %s: %v", brief(p), brief(g), got)
		}
	}
}

// P14.1: known values, of the parameter's kind, of another, and such as may not be.
func TestMay(t *testing.T) {
	some, few := words(), numbers()
	for _, v := range some {
		fits(t, text("P"), given("", v), true)
		fits(t, or(text("P"), a("z")), given("", v), true)
		fits(t, number("P"), given("", v), false)
		fits(t, or(number("P"), n(9)), given("", v), false)
	}
	for _, v := range few {
		fits(t, number("P"), given("", v), true)
		fits(t, or(number("P"), n(9)), given("", v), true)
		fits(t, text("P"), given("", v), false)
		fits(t, or(text("P"), a("z")), given("", v), false)
	}
	for _, v := range others() {
		for _, p := range []api.Param{text("P"), number("P"), text("P", "a", ""), number("P", 1, 0), or(text("P"), a("")), or(number("P"), n(0))} {
			fits(t, p, given("", v), false)
		}
	}
}

// P14.1: what is allowed, and nothing else; whatever the default is.
func TestMayAllowed(t *testing.T) {
	for _, p := range []api.Param{text("P", "a", "", "c"), or(text("P", "a", "", "c"), a("c"))} {
		for _, v := range slices.Concat(words(), numbers()) {
			fits(t, p, given("", v), v.Kind == api.Text && (v.Text == "a" || v.Text == "" || v.Text == "c"))
		}
	}
	for _, p := range []api.Param{number("P", 0, 3, -1), or(number("P", 0, 3, -1), n(3))} {
		for _, v := range slices.Concat(words(), numbers()) {
			fits(t, p, given("", v), v.Kind == api.Number && (v.Num == 0 || v.Num == 3 || v.Num == -1))
		}
	}
	none := text("P")
	none.Allowed = []api.Value{}
	fits(t, none, given("", a("x")), true)
	for i := range api.MaxList {
		p := number("P", 0, 1, 2, 3, 4, 5, 6, 7)
		fits(t, p, given("", n(i)), true)
		fits(t, p, given("", n(i+api.MaxList)), false)
	}
}

// P14.1: what is unknown may be a text's, where nothing is allowed alone; and nothing's, if a value stands beside it.
func TestMayUnknown(t *testing.T) {
	none := text("P")
	none.Allowed = []api.Value{}
	open := []api.Param{text("P"), none, or(text("P"), a("a"))}
	closed := []api.Param{text("P", "a"), or(text("P", "a", "b"), a("a")), number("P"), or(number("P"), n(1)), number("P", 1), or(number("P", 1), n(1))}
	alone := givens{unknown(""), {Unknown: true, V: api.Value{List: []api.Value{}, Keys: []string{}}}}
	for _, g := range alone {
		for _, p := range open {
			fits(t, p, g, true)
		}
		for _, p := range closed {
			fits(t, p, g, false)
		}
	}
	beside := append(others(), api.Value{List: []api.Value{{}}}, api.Value{Keys: []string{""}}, api.Value{List: endless().List})
	for _, v := range slices.Concat(words(), numbers(), beside[1:]) {
		for _, p := range slices.Concat(open, closed) {
			fits(t, p, api.Given{Unknown: true, V: v}, false)
		}
	}
}

// wrongs are parameters that may not be, each with what might be its value but for that.
func wrongs() []api.Param {
	some, few := text("P"), number("P")
	some.Default, few.Default = a("a"), n(1)
	long := text("P", "a", "b", "c", "d", "e", "f", "g", "h", "i")
	mixed := text("P", "a", "b")
	mixed.Allowed[1] = n(1)
	return []api.Param{
		{}, text(""), text("9"), text("P."), number("\xff"), some, few, long, mixed, or(text("P"), n(1)), or(number("P"), a("a")), or(text("P"), api.Value{}),
		text("P", "a", "a"), number("P", 1, 2, 1), text("P", "a", "\xff"), number("P", 1, api.MaxNumber+1), or(text("P", "a"), a("b")), or(number("P", 1), n(2)), or(text("P"), a(longest()+"w")),
	}
}

// P14.1: nothing may be the value of a parameter that may not be.
func TestMayWrong(t *testing.T) {
	for _, p := range wrongs() {
		checks(t, api.ErrArg, p)
		for _, v := range []api.Value{a("a"), a("b"), n(1), n(2), {}} {
			fits(t, p, given("", v), false)
			fits(t, p, api.Given{Unknown: true, V: v}, false)
		}
		fits(t, p, unknown(""), false)
		if len(p.Allowed) > 0 {
			fits(t, p, given("", p.Allowed[0]), false)
		}
		fits(t, p, given("", p.Default), false)
	}
}

// P14.1: Find of the first of a name, of one that stands twice, of none, in no row.
func TestFind(t *testing.T) {
	l := givens{given("B", a("b")), unknown("A"), given("B", n(2)), given("", a("none")), {Name: "C", Unknown: true, V: list(n(1))}, given("A", n(3)), given("\xff", api.Value{Kind: 9, Keys: []string{"k"}, List: []api.Value{{}, {}}})}
	for name, at := range map[string]int{"B": 0, "A": 1, "": 3, "C": 4, "\xff": 6} {
		if g, ok := params.Find(l, name); !ok || !same(g, l[at]) {
			t.Errorf("%q: %v, %v", name, g, ok)
		}
	}
	for _, name := range []string{"D", "a", "b", "BB", " ", "\xfe"} {
		if g, ok := params.Find(l, name); ok || !same(g, api.Given{}) {
			t.Errorf("%q: %v, %v", name, g, ok)
		}
	}
	for _, none := range []givens{nil, {}, l[:0]} {
		for _, name := range []string{"", "B"} {
			if g, ok := params.Find(none, name); ok || !same(g, api.Given{}) {
				t.Errorf("%q: %v, %v", name, g, ok)
			}
		}
	}
	l = append(make(givens, 100000), given("Z", endless()))
	if g, ok := params.Find(l, "Z"); !ok || len(g.V.List) != 3 {
		t.Error(ok, len(g.V.List))
	}
}
