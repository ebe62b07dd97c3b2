package syntax

import (
	"hoarding/api"
	"hoarding/print"
	"hoarding/runes"
	"hoarding/sub"
)

// expr reads an expression.
func (p part) expr() api.Expr {
	switch p.v.Kind {
	case api.Text:
		return api.Expr{Kind: api.ExText, Text: p.text(print.Word, api.ErrShape)}
	case api.Number:
		return api.Expr{Kind: api.ExNumber, Num: p.v.Num}
	case api.List:
		p.want(len(p.v.List) <= api.MaxList, api.ErrLong)
		return api.Expr{Kind: api.ExList, L: each(p.row(0, api.MaxList, api.ErrShape), part.expr)}
	}
	return only(p, exprs(), api.ErrShape)
}

// exprs has the reader of each key that an expression may have.
func exprs() map[string]func(part) api.Expr {
	return map[string]func(part) api.Expr{
		"Ref": func(p part) api.Expr {
			return api.Expr{Kind: api.ExRef, Name: p.text(runes.Name, api.ErrShape)}
		},
		"GetAtt": func(p part) api.Expr {
			l := p.row(2, 2, api.ErrShape)
			return api.Expr{Kind: api.ExAtt, Name: p.own(l[0], runes.Name), Attr: p.own(l[1], sub.Attr)}
		},
		"Sub": part.holes,
		"If": func(p part) api.Expr {
			l := p.row(3, 3, api.ErrShape)
			return api.Expr{Kind: api.ExIf, Name: p.own(l[0], runes.Name), L: each(l[1:], part.expr)}
		},
		"Join": func(p part) api.Expr {
			l := p.row(2, 2, api.ErrShape)
			return api.Expr{Kind: api.ExJoin, Text: p.own(l[0], print.Word), L: each(l[1:], part.expr)}
		},
		"Select": func(p part) api.Expr {
			return api.Expr{Kind: api.ExSelect, L: each(p.row(2, 2, api.ErrShape), part.expr)}
		},
	}
}

// own answers the text x of the list p, which must be such as may says. It is no expression, with a place of its own, but something that the list's key asks for: its fault is the key's, and told at the list.
func (p part) own(x part, may func(string) bool) string {
	x.at = p.at
	return x.text(may, api.ErrShape)
}

// holes reads a text with holes.
func (p part) holes() api.Expr {
	p.want(p.v.Kind == api.Text, api.ErrShape)
	parts, _, e := sub.Lex(p.v.Text)
	p.want(e == api.OK, e)
	return api.Expr{Kind: api.ExSub, L: parts}
}
