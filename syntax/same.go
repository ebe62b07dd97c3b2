package syntax

import (
	"slices"

	"hoarding/api"
)

// Same tells whether a and b are the same template.
func Same(a, b api.Template) bool {
	return alike([]api.Template{a}, []api.Template{b}, func(a, b api.Template, within func(a, b []api.Template)) bool {
		resources := func(a, b api.Resource) bool {
			within(a.Inner, b.Inner)
			return sameResource(a, b)
		}
		return slices.EqualFunc(a.Params, b.Params, sameParam) && slices.EqualFunc(a.Conds, b.Conds, sameCond) &&
			slices.EqualFunc(a.Res, b.Res, resources) && slices.EqualFunc(a.Outs, b.Outs, sameOutput)
	})
}

// SameExpr tells whether a and b are the same expression.
func SameExpr(a, b api.Expr) bool {
	return alike([]api.Expr{a}, []api.Expr{b}, func(a, b api.Expr, within func(a, b []api.Expr)) bool {
		within(a.L, b.L)
		return a.Kind == b.Kind && a.Text == b.Text && a.Num == b.Num && a.Name == b.Name && a.Attr == b.Attr
	})
}

// alike tells whether a and b are as many, and alike one by one, as the function one says; lists in them that must be alike, too, one hands to within. It keeps a list of what is still to be held against each other and does not call itself, so that it ends on any depth.
func alike[T any](a, b []T, one func(a, b T, within func(a, b []T)) bool) bool {
	type pair struct{ a, b []T }
	left := []pair{{a, b}}
	within := func(a, b []T) { left = append(left, pair{a, b}) }
	for len(left) > 0 {
		p := left[len(left)-1]
		left = left[:len(left)-1]
		if len(p.a) != len(p.b) {
			return false
		}
		// What is one and the same need not be looked at, though it had no end.
		if len(p.a) == 0 || &p.a[0] == &p.b[0] {
			continue
		}
		for i, x := range p.a {
			if !one(x, p.b[i], within) {
				return false
			}
		}
	}
	return true
}

func sameParam(a, b api.Param) bool {
	return a.Name == b.Name && a.Number == b.Number && a.Has == b.Has &&
		sameValues([]api.Value{a.Default}, []api.Value{b.Default}) && sameValues(a.Allowed, b.Allowed)
}

func sameValues(a, b []api.Value) bool {
	return alike(a, b, func(a, b api.Value, within func(a, b []api.Value)) bool {
		within(a.List, b.List)
		return a.Kind == b.Kind && a.Bool == b.Bool && a.Num == b.Num && a.Text == b.Text && slices.Equal(a.Keys, b.Keys)
	})
}

func sameCond(a, b api.Cond) bool {
	return alike([]api.Cond{a}, []api.Cond{b}, func(a, b api.Cond, within func(a, b []api.Cond)) bool {
		within(a.L, b.L)
		return a.Name == b.Name && a.Kind == b.Kind && SameExpr(a.A, b.A) && SameExpr(a.B, b.B)
	})
}

// sameResource tells whether a and b are the same, but for their nested templates.
func sameResource(a, b api.Resource) bool {
	return a.Id == b.Id && a.Type == b.Type && a.Cond == b.Cond && a.Retain == b.Retain &&
		slices.EqualFunc(a.Props, b.Props, sameProp) && slices.Equal(a.Depends, b.Depends)
}

func sameProp(a, b api.Prop) bool { return a.Name == b.Name && SameExpr(a.E, b.E) }

func sameOutput(a, b api.Output) bool {
	return a.Name == b.Name && a.Cond == b.Cond && SameExpr(a.E, b.E)
}
