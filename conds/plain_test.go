package conds_test

import (
	"math"
	"strings"
	"testing"

	"hoarding/api"
	"hoarding/conds"
	"hoarding/tree"
)

// plains asks for an expression's value, alone; and whether an Equals of it may be, on either side.
func plains(t *testing.T, x api.Expr, params givens, want api.Given, e api.Errno) {
	t.Helper()
	if got, f := conds.Plain(x, params); f != e || !same(got, want) {
		t.Errorf("Plain of %s, %s: %s, %d; not %s, %d", brief(x), brief(params), brief(got), f, brief(want), e)
	}
	var all names
	for _, g := range params {
		all = append(all, g.Name)
	}
	checks(t, row{is("A", equals(x, text("")))}, all, e)
	checks(t, row{is("A", equals(num(1), x))}, all, e)
	checks(t, row{is("A", or(yes(), and(yes(), not(equals(x, text("a"))))))}, all, e)
}

// isPlain wants the value v, which is known.
func isPlain(t *testing.T, x api.Expr, params givens, v api.Value) {
	t.Helper()
	plains(t, x, params, api.Given{V: v}, api.OK)
}

// notPlain wants an error, and nothing beside it.
func notPlain(t *testing.T, x api.Expr, params givens) {
	t.Helper()
	plains(t, x, params, api.Given{}, api.ErrCond)
}

// P15.2: texts.
func TestPlainText(t *testing.T) {
	for _, s := range []string{"", "a", "P", "\x00\n\"\\", "\u20ac", "\U0010ffff", strings.Repeat("w", api.MaxWord+1), strings.Repeat("\u00e9", 100000)} {
		isPlain(t, text(s), nil, tree.Text(s))
		isPlain(t, text(s), givens{given("P", tree.Num(1)), unknown("a")}, tree.Text(s))
	}
	for _, s := range []string{"\xff", "a\xc3", "\xed\xa0\x80", "\xc0\x80", "\xf4\x90\x80\x80", strings.Repeat("w", 100000) + "\x80"} {
		notPlain(t, text(s), nil)
		notPlain(t, text(s), givens{given(s, tree.Num(1))})
	}
}

// P15.2: numbers, just at the limits and one past each.
func TestPlainNumber(t *testing.T) {
	for _, n := range []int{0, 1, -1, 77, api.MaxNumber, api.MaxNumber - 1, -api.MaxNumber, -api.MaxNumber + 1} {
		isPlain(t, num(n), nil, tree.Num(n))
	}
	for _, n := range []int{api.MaxNumber + 1, -api.MaxNumber - 1, math.MaxInt, math.MinInt} {
		notPlain(t, num(n), nil)
	}
}

// values are parameters' values, each told by another; some that no parameter may have.
func values() []api.Value {
	return []api.Value{tree.Text("a"), tree.Text(""), tree.Num(0), tree.Num(api.MaxNumber), {}, {Kind: api.Bool, Bool: true}, {Kind: api.List, List: []api.Value{tree.Num(1), {}}}, {Kind: api.Object, Keys: names{"b", "a"}, List: []api.Value{tree.Num(1), tree.Text("x")}}, tree.Text("\xff"), tree.Num(math.MaxInt), {Kind: 9, Text: "a"}}
}

// P15.2: references, to parameters that are there, and that are not; the Name is empty.
func TestPlainRef(t *testing.T) {
	for _, v := range values() {
		isPlain(t, ref("P"), givens{given("P", v)}, v)
		isPlain(t, ref("Q"), givens{unknown("P"), given("Q", v), given("R", tree.Num(9))}, v)
		isPlain(t, ref("P"), givens{given("P", v), given("P", tree.Num(9)), unknown("P")}, v)
	}
	plains(t, ref("P"), givens{unknown("P")}, api.Given{Unknown: true}, api.OK)
	plains(t, ref("Q"), givens{given("P", tree.Num(1)), unknown("Q"), given("Q", tree.Num(1))}, api.Given{Unknown: true}, api.OK)
	// What is unknown has no value beside it.
	plains(t, ref("P"), givens{{Name: "P", Unknown: true, V: tree.Text("a")}}, api.Given{Unknown: true}, api.OK)
	for _, name := range append(noNames(), "p", "PP", "Q", "Arn") {
		notPlain(t, ref(name), nil)
		notPlain(t, ref(name), givens{given("P", tree.Text(name))})
		notPlain(t, ref(name), givens{unknown("P"), given("R", tree.Num(1))})
	}
	isPlain(t, ref(longName(api.MaxName)), givens{given(longName(api.MaxName), tree.Num(1))}, tree.Num(1))
}

// P15.2: of each kind a field that it does not name and that is not zero; lists of nothing and none alike.
func TestPlainFields(t *testing.T) {
	params := givens{given("P", tree.Text("a")), given("a", tree.Num(1)), given("", tree.Num(2)), given("PP", tree.Num(3)), given("A", tree.Num(4))}
	named := map[int8]string{api.ExText: "Text", api.ExNumber: "Num", api.ExRef: "Name"}
	for _, x := range []api.Expr{text(""), text("a"), text("P"), num(0), num(7), ref("P")} {
		good := 0
		for _, y := range oddExprs(x) {
			// The field that the kind names may be another one.
			if len(y.L) == 0 && y.Attr == "" && (named[x.Kind] == "Text" && y.Text != x.Text || named[x.Kind] == "Num" && y.Num != x.Num || named[x.Kind] == "Name" && y.Name != x.Name) {
				good++
				if _, e := conds.Plain(y, params); e != api.OK {
					t.Errorf("Plain of %s: %d", brief(y), e)
				}
			} else {
				notPlain(t, y, params)
			}
		}
		if good != 1 {
			t.Errorf("%s: %d", brief(x), good)
		}
		x.L = exprs{}
		want, _ := conds.Plain(x, params)
		plains(t, x, params, want, api.OK)
	}
}

// P15.2: kinds that are not plain, and none.
func TestPlainKinds(t *testing.T) {
	params := givens{given("P", tree.Text("a"))}
	for kind := math.MinInt8; kind <= math.MaxInt8; kind++ {
		k := int8(kind)
		for _, x := range []api.Expr{{}, text("a"), num(1), ref("P"), {Name: "P", Attr: "Arn"}, {L: exprs{text("a")}}, {Name: "P", L: exprs{text("a"), num(1)}}, {Text: "-", L: exprs{{Kind: api.ExList}}}} {
			x.Kind = k
			if k != api.ExText && k != api.ExNumber && k != api.ExRef {
				notPlain(t, x, params)
			}
		}
	}
}
