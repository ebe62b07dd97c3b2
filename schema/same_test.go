package schema_test

import (
	"testing"

	"hoarding/api"
	"hoarding/schema"
	"hoarding/tree"
)

// sames asks both ways about.
func sames(t *testing.T, a, b []api.Given, want bool) {
	t.Helper()
	for _, c := range [][2][]api.Given{{a, b}, {b, a}} {
		if got := schema.Same(c[0], c[1]); got != want {
			t.Errorf("Same of %.200v, %.200v: %v", c[0], c[1], got)
		}
	}
}

// as answers one property of a value.
func as(v api.Value) []api.Given { return []api.Given{{Name: "a", V: v}} }

// strange are values of all kinds, no two of them the same; those that may not be among them.
func strange() []api.Value {
	out := []api.Value{
		{}, {Kind: api.Bool}, {Kind: api.Bool, Bool: true}, tree.Num(0), tree.Num(1), tree.Num(api.MaxNumber + 1), tree.Text(""), tree.Text("a"), tree.Text("\xff"), tree.Text("\xfe"),
		list(), texts("a"), texts("a", "a"), texts("a", "b"), texts("b", "a"), list(list()), list(list(list())), list(list(), list()), list(api.Value{}), list(api.Value{Kind: 9}), list(api.Value{Kind: 8}),
		{Kind: 9}, {Kind: -9}, {Kind: 9, Num: 1}, {Kind: 9, Bool: true}, {Kind: 9, Text: "a"}, {Kind: 9, List: []api.Value{{}}}, {Kind: 9, Keys: []string{"a"}},
		{Num: 1}, {Bool: true}, {Text: "a"}, {List: []api.Value{{}}}, {Keys: []string{"a"}}, {Keys: []string{"a", "b"}}, {Keys: []string{"b", "a"}},
		object(""), object("a", api.Value{}), object("b", api.Value{}), object("a b", tree.Num(1), tree.Num(2)), object("a b", tree.Num(2), tree.Num(1)),
		object("a a", tree.Num(1), tree.Num(2)), object("a a", tree.Num(2), tree.Num(1)), object("a b", tree.Num(1), api.Value{Kind: 9}), object("b a", api.Value{Kind: 9}, tree.Num(1)),
		list(object("a b", tree.Num(1), tree.Num(2)), api.Value{Kind: 9}), list(object("b a", tree.Num(2), tree.Num(1)), api.Value{Kind: 9}),
		{Kind: api.Object, Keys: []string{"a"}}, {Kind: api.Object, Keys: []string{"a", "b"}, List: []api.Value{{}}}, {Kind: api.Object, List: []api.Value{{}}},
		deep(api.MaxDeep, tree.Num(1)), deep(api.MaxDeep, tree.Num(2)), deep(api.MaxDeep+1, tree.Num(1)), deep(1000, tree.Num(1)), deep(1000, tree.Num(2)),
	}
	return out
}

// P9.2: each value against each: the same ones alone, whether or not they may be.
func TestSameEach(t *testing.T) {
	l := strange()
	for i, a := range l {
		for j, b := range l {
			sames(t, as(a), as(clone(b)), i == j)
			sames(t, []api.Given{number("b", 1), {Name: "a", V: a}, unknown("c")}, []api.Given{number("b", 1), {Name: "a", V: clone(b)}, unknown("c")}, i == j)
		}
	}
}

// P9.2: lists of nothing and none alike, at every depth, whether or not the value may be.
func TestSameNothing(t *testing.T) {
	hollow := func(v api.Value) api.Value { v.List, v.Keys = []api.Value{}, []string{}; return v }
	for _, v := range []api.Value{{}, list(), object(""), tree.Num(7), tree.Text("a"), {Kind: 9}, {Num: 9}, tree.Text("\xff")} {
		sames(t, as(v), as(hollow(v)), true)
		sames(t, as(list(v, v)), as(list(v, hollow(v))), true)
		sames(t, as(list(list(v), api.Value{Kind: 9})), as(list(list(hollow(v)), hollow(api.Value{Kind: 9}))), true)
	}
	sames(t, nil, []api.Given{}, true)
	sames(t, nil, nil, true)
	sames(t, nil, []api.Given{{}}, false)
}

// P9.2: values that are equal, though they are not the same field by field.
func TestSameEqual(t *testing.T) {
	one, two := object("a b", tree.Num(1), tree.Num(2)), object("b a", tree.Num(2), tree.Num(1))
	sames(t, as(one), as(two), true)
	sames(t, as(list(object("x y", one, list(two)))), as(list(object("y x", list(one), two))), true)
	sames(t, as(one), as(object("b a", tree.Num(1), tree.Num(2))), false)
	sames(t, []api.Given{{Name: "a", Unknown: true, V: one}}, []api.Given{{Name: "a", Unknown: true, V: two}}, true)
}

// P9.2: the same names in the same order, and the same Unknown; whatever the types say of them.
func TestSameNames(t *testing.T) {
	a := []api.Given{text("Kind", "a"), number("Size", 1), unknown("Tags")}
	sames(t, a, clones(a), true)
	for _, b := range [][]api.Given{
		nil, a[:1], a[:2], a[1:], append(clones(a), api.Given{}),
		{text("Kind", "a"), number("Size", 1), {Name: "Tags"}},
		{text("Kind", "a"), number("Size", 1), unknown("Tag")},
		{text("Kind", "a"), number("Size", 2), unknown("Tags")},
		{text("kind", "a"), number("Size", 1), unknown("Tags")},
		{text("", "a"), number("Size", 1), unknown("Tags")},
		{text("Kind", "b"), number("Size", 1), unknown("Tags")},
		{unknown("Kind"), number("Size", 1), unknown("Tags")},
		{{Name: "Kind", Unknown: true, V: tree.Text("a")}, number("Size", 1), unknown("Tags")},
		{text("Kind", "a"), number("Size", 1), {Name: "Tags", Unknown: true, V: tree.Num(1)}},
		{number("Size", 1), text("Kind", "a"), unknown("Tags")},
		{text("Kind", "a"), text("Kind", "a"), number("Size", 1), unknown("Tags")},
	} {
		sames(t, a, b, false)
		sames(t, b, clones(b), true)
	}
}

// R1: Same and Check end on values that are very deep, very long, or hold themselves.
func TestSameGreat(t *testing.T) {
	const n = 4_000_000
	one, two := deep(n, tree.Num(1)), deep(n, tree.Num(1))
	sames(t, as(one), as(two), true)
	sames(t, as(one), as(one.List[0]), false)
	long := list(make([]api.Value, n/10)...)
	sames(t, as(long), as(clone(long)), true)
	sames(t, as(long), as(list(long.List[1:]...)), false)
	endless := list(api.Value{}, api.Value{})
	endless.List[1] = endless
	sames(t, as(endless), as(endless), true)
	sames(t, as(endless), as(list(api.Value{}, api.Value{})), false)
	for _, v := range []api.Value{one, long, endless} {
		for _, unknown := range []bool{false, true} {
			checks(t, "Disk", api.ErrProp, api.Given{Name: "Tags", Unknown: unknown, V: v})
			checks(t, "Disk", api.ErrProp, api.Given{Name: "Tags", Unknown: unknown, V: list(v)})
		}
		refuses(t, "Disk", nil, []api.Given{{Name: "Tags", V: v}}, api.ErrProp)
	}
}
