package params_test

import (
	"reflect"
	"testing"

	"hoarding/api"
	"hoarding/params"
)

// asked is what a call can be asked.
type asked struct {
	l     rowOfParams
	given givens
	name  string
}

// told is what all calls tell.
type told struct {
	Bound, Found givens
	Names        []string
	Checked, E   api.Errno
	Name         string
	May, Same    bool
}

// tell asks all calls, each of several things.
func (x asked) tell() (out told) {
	out.Checked = params.Check(x.l)
	out.Names = params.Names(x.l)
	out.Bound, out.Name, out.E = params.Bind(x.l, x.given)
	g, _ := params.Find(x.given, x.name)
	out.Found = givens{g}
	for _, p := range x.l {
		for _, g := range x.given {
			out.May = out.May != params.May(p, g)
		}
	}
	out.Same = params.Same(x.given, x.given[:len(x.given)/2]) || params.Same(x.given, clone(x.given))
	return out
}

// asks are things to ask: some are bound, some refused.
func asks() []asked {
	hollow := api.Value{Kind: api.Text, Text: "c", List: []api.Value{}, Keys: []string{}}
	odd := object("b a", list(n(1), a("x")), api.Value{Kind: 9, Keys: []string{"z", "a"}})
	return []asked{
		{},
		{three(), givens{given("A", a("x"))}, "A"},
		{three(), givens{given("A", a("x")), given("B", n(3))}, "B"},
		{three(), givens{given("A", hollow), given("C", hollow)}, "C"},
		{three(), givens{unknown("A")}, "A"},
		{three(), givens{{Name: "A", Unknown: true, V: odd}}, "A"},
		{three(), givens{given("B", odd)}, "B"},
		{three(), givens{given("A", a("x")), given("D", odd)}, "D"},
		{three(), givens{given("C", a("x")), given("A", a("x")), given("A", odd)}, "A"},
		{rowOfParams{or(text("A", "b", "c", "a"), a("c")), or(text("B", "c"), hollow), text("C", "z", "y")}, givens{given("C", a("y"))}, "C"},
		{rowOfParams{number("B"), text("A", "b", "a")}, givens{given("B", list(odd, odd))}, "B"},
		{rowOfParams{{Name: "A", Default: odd, Allowed: []api.Value{odd, list(odd)}}}, givens{given("A", odd)}, "A"},
		{alphabet(api.MaxParams + 1), givens{given("A", a("x"))}, "Z"},
	}
}

// places answers how often each place in memory stands in a list of x, what stands behind the lists with them.
func places(x any, of map[[2]uintptr]int) {
	lists(reflect.ValueOf(x), func(l reflect.Value) {
		size := l.Type().Elem().Size()
		for i := range uintptr(l.Len()) {
			of[[2]uintptr{l.Pointer() + i*size, size}]++
		}
	})
}

// R4: what is told is new memory, and shares none with what was handed in, nor with what is told again.
func TestApart(t *testing.T) {
	for i, x := range asks() {
		x.l, x.given = roomy(x.l), roomy(x.given)
		one, two := x.tell(), x.tell()
		of := map[[2]uintptr]int{}
		for _, part := range []any{x.l, x.given, one.Bound, one.Found, one.Names, two.Bound, two.Found, two.Names} {
			places(part, of)
		}
		for _, many := range of {
			if many > 1 {
				t.Errorf("%d: a place stands in %d lists", i, many)
			}
		}
	}
}

// R4: a list that stands at two places among what is handed in is told as two.
func TestSharedIn(t *testing.T) {
	one := list(n(1), n(2))
	g, _ := params.Find(givens{given("A", list(one, one))}, "A")
	of := map[[2]uintptr]int{}
	places(g, of)
	for _, many := range of {
		if many > 1 {
			t.Errorf("a place stands in %d lists", many)
		}
	}
}

// R4: what is handed in is not changed, nor what stands behind it.
func TestUnchanged(t *testing.T) {
	for i, x := range asks() {
		l, in := roomy(x.l), roomy(x.given)
		asked{l, in, x.name}.tell()
		if !same(l, x.l) || !same(in, x.given) {
			t.Errorf("%d: %s, %s", i, brief(l), brief(in))
		}
		marks := 0
		for _, part := range []any{l, in} {
			lists(reflect.ValueOf(part), func(l reflect.Value) {
				for j := l.Len() - 2; j < l.Len(); j++ {
					want := reflect.New(l.Type().Elem()).Elem()
					mark(want)
					if marks++; !same(l.Index(j).Interface(), want.Interface()) {
						t.Errorf("%d: behind a list stands %s", i, brief(l.Index(j).Interface()))
					}
				}
			})
		}
		if marks < 4 {
			t.Errorf("%d: %d marks", i, marks)
		}
	}
}

// R3, R4: nothing is kept: what is done to what was handed in, or told, changes nothing that was told, or is told later.
func TestNothingKept(t *testing.T) {
	for i, x := range asks() {
		want := clone(x.tell())
		for range 3 {
			l, in := roomy(x.l), roomy(x.given)
			one, two := asked{l, in, x.name}.tell(), asked{l, in, x.name}.tell()
			for _, part := range []any{l, in, two.Bound, two.Found, two.Names} {
				spoil(part)
			}
			if three := x.tell(); !same(one, want) || !same(three, want) {
				t.Errorf("%d: %s, then %s, not %s", i, brief(one), brief(three), brief(want))
			}
		}
	}
}
