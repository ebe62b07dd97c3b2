package syntax

import (
	"hoarding/api"
	"hoarding/runes"
)

// defined reads a condition's definition.
func (p part) defined(name string) api.Cond {
	c := p.cond()
	other, is := p.under("Condition")
	other.want(!is, api.ErrSection)
	c.Name = name
	return c
}

// cond reads a condition.
func (p part) cond() api.Cond {
	readers := conds()
	known(p, readers)
	return only(p, readers, api.ErrSection)
}

// conds has the reader of each key that a condition may have.
func conds() map[string]func(part) api.Cond {
	return map[string]func(part) api.Cond{
		"Equals": func(p part) api.Cond {
			l := each(p.row(2, 2, api.ErrSection), part.expr)
			return api.Cond{Kind: api.CoEquals, A: l[0], B: l[1]}
		},
		"And": joined(api.CoAnd, 4),
		"Or":  joined(api.CoOr, 4),
		"Not": joined(api.CoNot, 1),
		"Condition": func(p part) api.Cond {
			return api.Cond{Kind: api.CoName, Name: p.text(runes.Name, api.ErrSection)}
		},
	}
}

// joined answers the reader of a list of conditions, from one to most.
func joined(kind int8, most int) func(part) api.Cond {
	return func(p part) api.Cond {
		return api.Cond{Kind: kind, L: each(p.row(1, most, api.ErrSection), part.cond)}
	}
}
