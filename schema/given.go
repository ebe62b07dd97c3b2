package schema

import (
	"slices"

	"hoarding/api"
	"hoarding/print"
	"hoarding/tree"
)

// Check answers what is wrong with a type, or with properties that are given to it; OK, if nothing is.
func Check(kind string, l []api.Given) api.Errno {
	props, ok := types()[kind]
	if !ok {
		return api.ErrType
	}
	for i, g := range l {
		spec, ok := props[g.Name]
		if !ok || i > 0 && l[i-1].Name >= g.Name || !may(g, spec.Kind) {
			return api.ErrProp
		}
	}
	return api.OK
}

// may tells whether g may be given to a property of a kind.
func may(g api.Given, kind int8) bool {
	if g.Unknown {
		return kind != api.Number && alike(g.V, api.Value{})
	}
	return holds(g.V, kind)
}

// holds tells whether v may be the value of a property of a kind.
func holds(v api.Value, kind int8) bool {
	if v.Kind != kind || tree.Check(v) != api.OK {
		return false
	}
	switch kind {
	case api.Text:
		return print.Word(v.Text)
	case api.List:
		return len(v.List) <= api.MaxList && !slices.ContainsFunc(v.List, noWord)
	}
	return true
}

func noWord(v api.Value) bool { return !holds(v, api.Text) }

// Differ answers what becomes of a thing whose properties are a and shall be b.
func Differ(kind string, a, b []api.Given) (int8, api.Errno) {
	if e := Check(kind, a); e != api.OK {
		return 0, e
	}
	if e := Check(kind, b); e != api.OK {
		return 0, e
	}
	if slices.ContainsFunc(a, unknown) {
		return 0, api.ErrProp
	}
	change, was, shall := api.ChNone, byName(a), byName(b)
	for name, spec := range types()[kind] {
		if !turns(was[name], shall[name]) {
			continue
		}
		if spec.Replace {
			return api.ChReplace, api.OK
		}
		change = api.ChModify
	}
	return change, api.OK
}

func unknown(g api.Given) bool { return g.Unknown }

func byName(l []api.Given) map[string]api.Given {
	all := map[string]api.Given{}
	for _, g := range l {
		all[g.Name] = g
	}
	return all
}

// turns tells whether a property is another one in b than in a. One that is not given is zero: its name tells it from all that are.
func turns(a, b api.Given) bool {
	return a.Name != b.Name || b.Unknown || !tree.Equal(a.V, b.V)
}

// Same tells whether a and b are the same properties.
func Same(a, b []api.Given) bool { return slices.EqualFunc(a, b, sameGiven) }

func sameGiven(a, b api.Given) bool {
	return a.Name == b.Name && a.Unknown == b.Unknown && (alike(a.V, b.V) || tree.Equal(a.V, b.V))
}

// alike tells whether a and b are the same, field by field. It keeps a list of what is still to be held against each other and does not call itself, so that it ends on any depth.
func alike(a, b api.Value) bool {
	type pair struct{ a, b []api.Value }
	for left := []pair{{[]api.Value{a}, []api.Value{b}}}; len(left) > 0; {
		p := left[len(left)-1]
		left = left[:len(left)-1]
		for i, v := range p.a {
			w := p.b[i]
			if !alikeBut(v, w) {
				return false
			}
			if !one(v.List, w.List) {
				left = append(left, pair{v.List, w.List})
			}
		}
	}
	return true
}

// alikeBut tells whether a and b are the same, field by field, but for what their lists hold.
func alikeBut(a, b api.Value) bool {
	return a.Kind == b.Kind && a.Bool == b.Bool && a.Num == b.Num && a.Text == b.Text &&
		slices.Equal(a.Keys, b.Keys) && len(a.List) == len(b.List)
}

// one tells whether a and b, as many, are the same list: what it holds need not be looked at then, though it had no end.
func one(a, b []api.Value) bool { return len(a) == 0 || &a[0] == &b[0] }
