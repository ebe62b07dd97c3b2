package conds

import (
	"hoarding/api"
	"hoarding/tree"
)

// run goes over conditions that may be, under parameters' values.
type run struct {
	conds  []api.Cond
	params []api.Given
	to     scope
	done   map[string]api.Value // what has been evaluated, by the conditions' names
}

// unknown ends a run: a value that is wanted is unknown.
type unknown struct{}

// named answers whether the condition of that name holds.
func (r run) named(name string) api.Value {
	v, ok := r.done[name]
	if !ok {
		v = api.Value{Kind: api.Bool, Bool: r.holds(r.conds[r.to.conds[name]])}
		r.done[name] = v
	}
	return v
}

// holds tells whether c, or the definition c, holds.
func (r run) holds(c api.Cond) bool {
	switch c.Kind {
	case api.CoEquals:
		return tree.Equal(r.wanted(c.A), r.wanted(c.B))
	case api.CoName:
		return r.named(c.Name).Bool
	}
	// All parts are looked at, though one has told already: an unknown value behind it is wrong, too.
	many := 0
	for _, part := range c.L {
		if r.holds(part) {
			many++
		}
	}
	switch c.Kind {
	case api.CoAnd:
		return many == len(c.L)
	case api.CoOr:
		return many > 0
	}
	return many == 0
}

// wanted answers the plain expression e's value; if that is unknown, it ends the run.
func (r run) wanted(e api.Expr) api.Value {
	v, known := value(e, r.params, r.to.params)
	if !known {
		panic(unknown{})
	}
	return v
}

// value answers the plain expression e's value under the parameters' values, whose places are told by their names; false, if it is unknown.
func value(e api.Expr, params []api.Given, at map[string]int) (v api.Value, known bool) {
	switch e.Kind {
	case api.ExText:
		return tree.Text(e.Text), true
	case api.ExNumber:
		return tree.Num(e.Num), true
	}
	g := params[at[e.Name]]
	return g.V, !g.Unknown
}
