package conds

import (
	"slices"

	"hoarding/api"
	"hoarding/number"
	"hoarding/runes"
)

const (
	deepest = 6 // how deep a condition may be
	widest  = 4 // how many parts And and Or may have
)

// scope has the names to which conditions may refer, with their places.
type scope struct {
	params, conds map[string]int
}

// mayDefine tells whether c is a definition that may be.
func (to scope) mayDefine(c api.Cond) bool {
	named := runes.Name(c.Name)
	c.Name = ""
	return named && c.Kind != api.CoName && to.may(c, deepest)
}

// may tells whether c may be, as a part that is at most so deep.
func (to scope) may(c api.Cond, deep int) bool {
	if deep == 0 {
		return false
	}
	ok := false
	switch c.Kind {
	case api.CoEquals:
		ok = plain(c.A, to.params) && plain(c.B, to.params)
		c.A, c.B = api.Expr{}, api.Expr{}
	case api.CoAnd, api.CoOr:
		ok = to.mayParts(c.L, widest, deep-1)
		c.L = nil
	case api.CoNot:
		ok = to.mayParts(c.L, 1, deep-1)
		c.L = nil
	case api.CoName:
		_, ok = to.conds[c.Name]
		c.Name = ""
	}
	// What the kind does not name is still there.
	return ok && c.Name == "" && nothing(c.A) && nothing(c.B) && len(c.L) == 0
}

// mayParts tells whether l may be parts: one at least, at most so many, each at most so deep.
func (to scope) mayParts(l []api.Cond, most, deep int) bool {
	// How many there are is asked ahead of what they are: else a list of any length would be gone through.
	return len(l) >= 1 && len(l) <= most && !slices.ContainsFunc(l, func(c api.Cond) bool { return !to.may(c, deep) })
}

// plain tells whether e is plain, and refers to none but these parameters.
func plain(e api.Expr, params map[string]int) bool {
	ok := false
	switch e.Kind {
	case api.ExText:
		ok = runes.Valid(e.Text)
		e.Text = ""
	case api.ExNumber:
		ok = number.Fits(e.Num)
		e.Num = 0
	case api.ExRef:
		_, ok = params[e.Name]
		e.Name = ""
	}
	// What the kind does not name is still there.
	e.Kind = api.ExText
	return ok && nothing(e)
}

// nothing tells whether e is a text without anything.
func nothing(e api.Expr) bool {
	return e.Kind == api.ExText && e.Text == "" && e.Num == 0 && e.Name == "" && e.Attr == "" && len(e.L) == 0
}
