package syntax_test

import (
	"reflect"
	"testing"

	"hoarding/api"
	"hoarding/syntax"
)

// samples are templates that are not the same, each with something in it that the others have not.
func samples() []api.Template {
	x := api.Template{Outs: []api.Output{{Name: "O", E: num(1)}}}
	return []api.Template{
		{}, sample(), x,
		{Params: []api.Param{{Name: "P"}}}, {Params: []api.Param{{Name: "P"}, {Name: "P"}}},
		{Conds: []api.Cond{{}}}, {Conds: []api.Cond{conds(api.CoAnd, cond("A"))}}, {Conds: []api.Cond{conds(api.CoOr, cond("A"))}}, {Conds: []api.Cond{conds(api.CoAnd, cond("A"), cond("A"))}},
		{Res: []api.Resource{{}}}, {Res: []api.Resource{{Inner: make([]api.Template, 1)}}}, {Res: []api.Resource{{Inner: make([]api.Template, 2)}}}, {Res: []api.Resource{{Inner: []api.Template{x}}}}, {Res: []api.Resource{{Props: make([]api.Prop, 1)}}}, {Res: []api.Resource{{Depends: make([]string, 1)}}},
		{Outs: make([]api.Output, 1)}, {Outs: append([]api.Output{{}}, x.Outs...)}, {Outs: append(x.Outs[:1:1], api.Output{})},
		// Such as nothing reads.
		{Params: []api.Param{{Default: api.Value{Kind: 9, Num: 1, Keys: []string{"b", "a"}, List: make([]api.Value, 1)}}}},
		{Params: []api.Param{{Default: api.Value{Kind: 9, Num: 1, Keys: []string{"a", "b"}, List: make([]api.Value, 1)}}}},
		{Params: []api.Param{{Default: value("{'a':1,'b':2}")}}}, {Params: []api.Param{{Default: value("{'b':2,'a':1}")}}}, {Params: []api.Param{{Allowed: value("[1,2]").List}}}, {Params: []api.Param{{Allowed: value("[2,1]").List}}},
		{Res: []api.Resource{{Type: "\xff", Depends: []string{"b", "a"}}}}, {Res: []api.Resource{{Type: "\xff", Depends: []string{"a", "b"}}}}, {Res: []api.Resource{{Type: "\xfe", Depends: []string{"a", "b"}}}},
	}
}

// P13.3: templates are the same as themselves, in whatever memory, and as no other one.
func TestSame(t *testing.T) {
	for i, a := range samples() {
		for j, b := range samples() {
			for _, c := range []api.Template{b, clone(b), roomy(b)} {
				if got := syntax.Same(a, c); got != (i == j) {
					t.Errorf("%+v, %+v: %v", a, c, got)
				}
			}
		}
	}
}

// P13.3: nothing and none are the same.
func TestSameEmpty(t *testing.T) {
	a := api.Template{Params: make([]api.Param, 1), Conds: make([]api.Cond, 1), Res: []api.Resource{{Inner: make([]api.Template, 1)}}, Outs: make([]api.Output, 1)}
	b := api.Template{
		Params: []api.Param{{Allowed: []api.Value{}, Default: api.Value{List: []api.Value{}, Keys: []string{}}}},
		Conds:  []api.Cond{{A: list0(), B: list0(), L: []api.Cond{}}},
		Res:    []api.Resource{{Props: []api.Prop{}, Depends: []string{}, Inner: []api.Template{{Params: []api.Param{}, Conds: []api.Cond{}, Res: []api.Resource{}, Outs: []api.Output{}}}}},
		Outs:   []api.Output{{E: list0()}},
	}
	if !syntax.Same(a, b) || !syntax.Same(b, a) || !syntax.SameExpr(api.Expr{}, list0()) || !syntax.SameExpr(list0(), api.Expr{}) {
		t.Errorf("%+v, %+v", a, b)
	}
}

// list0 has a list of nothing.
func list0() api.Expr { return api.Expr{L: exprs{}} }

// differs wants two templates to be the same just if same says so, with each about, and nested.
func differs(t *testing.T, path string, a, b api.Template) {
	t.Helper()
	want := same(a, b)
	nest := func(x api.Template) api.Template {
		return api.Template{Res: []api.Resource{{Id: "N", Inner: []api.Template{{}, {Res: []api.Resource{{}, {Inner: []api.Template{x}}}}}}}}
	}
	if syntax.Same(a, b) != want || syntax.Same(b, a) != want || syntax.Same(nest(a), nest(b)) != want {
		t.Errorf("%s: %+v, %+v: not %v", path, a, b, want)
	}
}

// P13.3: two that differ in one field, at whatever depth, are not the same.
func TestOneField(t *testing.T) {
	was, x := sample(), sample()
	fields := map[string]bool{}
	change(reflect.ValueOf(&x).Elem(), "", func(path string) {
		fields[path] = true
		differs(t, path, was, x)
	})
	// What a template's fields are, each at its first depths.
	for _, path := range []string{
		".Params.Name", ".Params.Number", ".Params.Has", ".Params.Default.Kind", ".Params.Default.Bool", ".Params.Default.Num", ".Params.Default.Text", ".Params.Allowed.Kind", ".Params.Allowed.Text",
		".Conds.Name", ".Conds.Kind", ".Conds.A.Kind", ".Conds.L.Name", ".Conds.L.Kind", ".Conds.L.A.Text", ".Conds.L.B.Name", ".Conds.L.B.Attr", ".Conds.L.B.Num",
		".Res.Id", ".Res.Type", ".Res.Cond", ".Res.Retain", ".Res.Depends", ".Res.Props.Name", ".Res.Props.E.Kind", ".Res.Props.E.L.Num", ".Res.Props.E.L.L.Text",
		".Res.Inner.Params.Name", ".Res.Inner.Conds.L.A.Text", ".Res.Inner.Res.Depends", ".Res.Inner.Res.Inner.Outs.Cond", ".Res.Inner.Outs.E.L.L.Name",
		".Outs.Name", ".Outs.Cond", ".Outs.E.Name", ".Outs.E.Attr", ".Outs.E.L.Kind",
	} {
		if !fields[path] {
			t.Errorf("no %s in %v", path, fields)
		}
	}
}

// P13.3: two of which one has something more in one of its lists, behind or ahead, are not the same.
func TestOneMore(t *testing.T) {
	was, x := sample(), sample()
	n := 0
	var grow func(v reflect.Value, path string)
	grow = func(v reflect.Value, path string) {
		switch v.Kind() {
		case reflect.Struct:
			for i := range v.NumField() {
				grow(v.Field(i), path+"."+v.Type().Field(i).Name)
			}
		case reflect.Slice:
			own := reflect.ValueOf(v.Interface())
			none := reflect.Zero(v.Type().Elem())
			ahead := reflect.Append(reflect.MakeSlice(v.Type(), 0, 0), none)
			for _, other := range []reflect.Value{reflect.Append(own, none), reflect.AppendSlice(ahead, own)} {
				n++
				v.Set(other)
				differs(t, path, was, x)
				v.Set(own)
			}
			if own.Len() > 0 {
				n++
				v.Set(own.Slice(0, own.Len()-1))
				differs(t, path, was, x)
				v.Set(own)
			}
			if own.Len() > 1 {
				n++
				swap := reflect.Swapper(own.Interface())
				swap(0, 1)
				differs(t, path, was, x)
				swap(0, 1)
			}
			for i := range v.Len() {
				grow(v.Index(i), path)
			}
		}
	}
	grow(reflect.ValueOf(&x).Elem(), "")
	if n < 100 || !same(was, x) {
		t.Error(n, x)
	}
}

// P13.3: expressions, each against each.
func TestSameExpr(t *testing.T) {
	all := []api.Expr{
		{}, text("a"), text("A"), num(0), num(1), num(-1), list(), list(num(1)), list(num(1), num(1)), list(list()), list(num(1), num(2)), list(num(2), num(1)), ref("a"), ref("A"), att("A", "B"), att("B", "A"), att("A", "A"),
		sub(), sub(text("a")), when("A", num(1), num(2)), when("B", num(1), num(2)), when("A", num(2), num(1)), join("-", list()), join("", list()), choose(num(1), num(2)), choose(num(1), list(num(2))), choose(num(1), list(list(num(2)))),
		{Kind: 99}, {Kind: -1}, {Num: 1}, {Name: "a"}, {Attr: "a"}, {L: make(exprs, 1)}, {L: make(exprs, 2)}, {Kind: api.ExRef, Name: "A", Num: 1}, {Kind: api.ExRef, Name: "A", L: make(exprs, 1)}, text("\xff"), text("\xfe"),
	}
	for i, a := range all {
		for j, b := range all {
			for _, c := range []api.Expr{b, clone(b), roomy(b)} {
				if got := syntax.SameExpr(a, c); got != (i == j) {
					t.Errorf("%+v, %+v: %v", a, c, got)
				}
			}
		}
	}
}

// R1: what is far too deep, and what holds itself.
func TestSameEndless(t *testing.T) {
	chain := func(n int, x api.Expr) api.Expr {
		for range n {
			x = list(x)
		}
		return x
	}
	a, b, c := chain(200000, text("a")), chain(200000, text("a")), chain(200000, text("b"))
	if !syntax.SameExpr(a, b) || syntax.SameExpr(a, c) || syntax.SameExpr(a, chain(200001, text("a"))) {
		t.Error("expressions")
	}
	circle := func(s string) api.Expr {
		x := list(num(1), text(s), num(2))
		x.L[0] = x
		return x
	}
	x, y := circle("a"), circle("b")
	if !syntax.SameExpr(x, x) || syntax.SameExpr(x, y) || syntax.SameExpr(x, a) || syntax.SameExpr(a, x) {
		t.Error("an expression without an end")
	}
	deep := func(n int, s string) (t api.Template) {
		t.Outs = []api.Output{{Name: s}}
		for range n {
			t = api.Template{Res: []api.Resource{{Inner: []api.Template{t}}}}
		}
		return t
	}
	if !syntax.Same(deep(200000, "a"), deep(200000, "a")) || syntax.Same(deep(200000, "a"), deep(200000, "b")) {
		t.Error("templates")
	}
	not := func(n int, s string) api.Template {
		c := cond(s)
		for range n {
			c = conds(api.CoNot, c)
		}
		return api.Template{Conds: []api.Cond{c}}
	}
	if !syntax.Same(not(200000, "a"), not(200000, "a")) || syntax.Same(not(200000, "a"), not(200000, "b")) {
		t.Error("conditions")
	}
	preset := func(n int, s string) api.Template {
		v := api.Value{Kind: api.Text, Text: s}
		for range n {
			v = api.Value{Kind: api.List, List: []api.Value{v}}
		}
		return api.Template{Params: []api.Param{{Default: v}}}
	}
	if !syntax.Same(preset(200000, "a"), preset(200000, "a")) || syntax.Same(preset(200000, "a"), preset(200000, "b")) {
		t.Error("defaults")
	}
	self := deep(1, "a")
	self.Res[0].Inner[0] = self
	if !syntax.Same(self, self) || syntax.Same(self, deep(100, "a")) || syntax.Same(deep(100, "a"), self) {
		t.Error("a template without an end")
	}
}
