package conds_test

import (
	"reflect"
	"testing"

	"hoarding/api"
	"hoarding/conds"
	"hoarding/tree"
)

// asked is what the calls can be asked.
type asked struct {
	l      row
	params givens
}

// answers is what all calls tell.
type answers struct {
	Ran, Plain     givens
	Names          []names
	Circle         names
	Checked, RanAs api.Errno
}

// tell asks all calls: of each condition Names, of each of its sides Plain.
func (x asked) tell() (out answers) {
	var in names
	for _, g := range x.params {
		in = append(in, g.Name)
	}
	out.Checked = conds.Check(x.l, in)
	out.Ran, out.RanAs = conds.Run(x.l, x.params)
	out.Circle = conds.Circle(x.l)
	for _, c := range x.l {
		out.Names = append(out.Names, conds.Names(c))
		for _, side := range []api.Expr{c.A, c.B} {
			g, _ := conds.Plain(side, x.params)
			out.Plain = append(out.Plain, g)
		}
	}
	return out
}

// asks are things to ask: some may be, some are refused.
func asks() []asked {
	odd := api.Value{Kind: api.Object, Keys: names{"b", "a"}, List: []api.Value{{Kind: api.List, List: []api.Value{tree.Num(1), tree.Text("x")}}, {Kind: 9, Keys: names{"z", "y"}}}}
	params := givens{given("P", tree.Text("a")), given("Q", odd), unknown("U"), {Name: "V", Unknown: true, V: odd}, given("Q", tree.Num(1))}
	hollow := api.Expr{Kind: api.ExRef, Name: "Q", L: exprs{}}
	return []asked{
		{},
		{row{is("A", equals(ref("P"), ref("Q"))), is("B", or(cond("A"), not(cond("C")))), is("C", and(yes(), no(), equals(ref("Q"), ref("Q"))))}, params},
		{row{is("B", equals(hollow, hollow)), is("A", api.Cond{Kind: api.CoNot, L: row{is("B", api.Cond{Kind: api.CoName, L: row{}})}})}, params},
		{row{is("A", equals(ref("P"), ref("U"))), is("B", not(equals(ref("V"), ref("Q"))))}, params},
		{row{is("B", equals(ref("R"), ref("Q"))), is("A", and(cond("B"), cond("A")))}, params},
		{graph("C:AB A:BC B:ZYA"), params},
		{graph("C:AB A:BC C:ZYA A:*"), nil},
		{row{is("A", api.Cond{Kind: 9, A: api.Expr{Kind: 9, L: exprs{ref("P"), {L: exprs{text("a")}}}}, B: ref("Q"), L: row{cond("B"), cond("A"), not(cond("C"))}})}, params},
		{alphabet(7), params},
	}
}

// places answers how often each place in memory stands in a list of x, what stands behind the lists with them.
func places(x any, of map[[2]uintptr]int) {
	lists(reflect.ValueOf(x), func(l reflect.Value) {
		size := l.Type().Elem().Size()
		for i := range uintptr(l.Len()) {
			of[[2]uintptr{l.Pointer() + i*size, size}]++
		}
	})
}

// R4: what is told is new memory, and shares none with what was handed in, nor with what is told again.
func TestApart(t *testing.T) {
	for i, x := range asks() {
		x = asked{roomy(x.l), roomy(x.params)}
		one, two := x.tell(), x.tell()
		of := map[[2]uintptr]int{}
		for _, part := range []any{x.l, x.params, one, two} {
			places(part, of)
		}
		for _, many := range of {
			if many > 1 {
				t.Errorf("%d: a place stands in %d lists", i, many)
			}
		}
	}
	// A list that stands at two places is told as two.
	one := api.Value{Kind: api.List, List: []api.Value{tree.Num(1), tree.Num(2)}}
	g, _ := conds.Plain(ref("P"), givens{given("P", api.Value{Kind: api.List, List: []api.Value{one, one}})})
	of := map[[2]uintptr]int{}
	places(g, of)
	for _, many := range of {
		if many > 1 || len(of) != 6 {
			t.Errorf("%d places, one in %d lists", len(of), many)
		}
	}
}

// R4: what is handed in is not changed, nor what stands behind it.
func TestUnchanged(t *testing.T) {
	for i, x := range asks() {
		y := asked{roomy(x.l), roomy(x.params)}
		y.tell()
		if !same(y.l, x.l) || !same(y.params, x.params) {
			t.Errorf("%d: %s, %s", i, brief(y.l), brief(y.params))
		}
		marks := 0
		for _, part := range []any{y.l, y.params} {
			lists(reflect.ValueOf(part), func(l reflect.Value) {
				for j := l.Len() - 2; j < l.Len(); j++ {
					want := reflect.New(l.Type().Elem()).Elem()
					mark(want)
					if marks++; !same(l.Index(j).Interface(), want.Interface()) {
						t.Errorf("%d: behind a list stands %s", i, brief(l.Index(j).Interface()))
					}
				}
			})
		}
		if marks < 4 {
			t.Errorf("%d: %d marks", i, marks)
		}
	}
	// Nor the names of parameters.
	in := roomy(names{"Q", "P", "P"})
	conds.Check(row{is("A", equals(ref("P"), ref("Q")))}, in)
	if !same(in[:5], names{"Q", "P", "P", "spoilt", "spoilt"}) {
		t.Error(in[:5])
	}
}

// R3, R4: nothing is kept: what is done to what was handed in, or told, changes nothing that was told, or is told later.
func TestNothingKept(t *testing.T) {
	for i, x := range asks() {
		want := clone(x.tell())
		for range 3 {
			y := asked{roomy(x.l), roomy(x.params)}
			one, two := y.tell(), y.tell()
			for _, part := range []any{y.l, y.params, two} {
				spoil(part)
			}
			if three := x.tell(); !same(one, want) || !same(three, want) {
				t.Errorf("%d: %s, then %s, not %s", i, brief(one), brief(three), brief(want))
			}
		}
	}
}
