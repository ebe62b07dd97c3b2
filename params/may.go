package params

import (
	"hoarding/api"
	"hoarding/print"
	"hoarding/runes"
	"hoarding/tree"
)

// mayBe tells whether a parameter may be.
func mayBe(p api.Param) bool {
	// How many are allowed is asked ahead of whether they may be: else a list of any length would be held against itself.
	return runes.Name(p.Name) && len(p.Allowed) <= api.MaxList && mayAllow(p) && mayDefault(p)
}

// mayAllow tells whether what is allowed is of the parameter's kind, and nothing twice.
func mayAllow(p api.Param) bool {
	for i, v := range p.Allowed {
		if !ofKind(v, p.Number) || among(p.Allowed[:i], v) {
			return false
		}
	}
	return true
}

// mayDefault tells whether the parameter's default may be, or is zero, if it has none.
func mayDefault(p api.Param) bool {
	if !p.Has {
		return zero(p.Default)
	}
	return ofKind(p.Default, p.Number) && allowed(p, p.Default)
}

// zero tells whether v is zero in all its fields.
func zero(v api.Value) bool {
	return Same([]api.Given{{V: v}}, []api.Given{{}})
}

// allowed tells whether the parameter allows v.
func allowed(p api.Param, v api.Value) bool {
	return len(p.Allowed) == 0 || among(p.Allowed, v)
}

// among tells whether v is equal to one of l.
func among(l []api.Value, v api.Value) bool {
	return some(l, func(w api.Value) bool { return tree.Equal(v, w) })
}

// ofKind tells whether v may be the value of a parameter that is a number or, if not, a text.
func ofKind(v api.Value, isNumber bool) bool {
	switch v.Kind {
	case api.Text:
		if !print.Word(v.Text) {
			return false
		}
		fallthrough
	case api.Number:
		return isNumber == (v.Kind == api.Number) && tree.Check(v) == api.OK
	}
	return false
}
