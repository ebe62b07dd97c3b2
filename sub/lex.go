package sub

import (
	"strings"

	"hoarding/api"
	"hoarding/runes"
)

// The states of the machine that goes over a text with holes.
const (
	plain  int = iota // outside of all holes
	dollar            // behind a $, which may begin a hole
	opened            // behind ${
	within            // in a hole
	kept              // behind ${!, in what stays as it is
)

// next answers the state behind the rune r.
func next(state int, r rune) int {
	switch {
	case state == dollar && r == '{':
		return opened
	case state == opened && r == '!':
		return kept
	case state == plain || state == dollar:
		if r == '$' {
			return dollar
		}
		return plain
	case r == '}':
		return plain
	case state == opened:
		return within
	}
	return state
}

// lex is Lex of a text that is not too long.
func lex(s string) ([]api.Expr, int, api.Errno) {
	read := reader()
	state, from := plain, 0 // from is where that begins which is not read yet: a text or, behind its ${, a hole
	for at, r := range s {
		was := state
		state = next(was, r)
		switch {
		case state == opened:
			open := at - len("$")
			read(text(s[from:open]))
			from = open
		case was == kept && state == plain:
			read(text("${" + s[from+len("${!"):at] + "}"))
			from = at + len("}")
		case (was == opened || was == within) && state == plain:
			x, ok := hole(s[from+len("${") : at])
			if !ok {
				return nil, from, api.ErrSub
			}
			read(x)
			from = at + len("}")
		}
	}
	if state != plain && state != dollar {
		return nil, from, api.ErrSub
	}
	return read(text(s[from:])), 0, api.OK
}

// reader answers a function that takes parts, one behind the other, and answers all that are read so far: texts that come one behind the other are one part, and an empty one is none.
func reader() func(api.Expr) []api.Expr {
	var parts []api.Expr
	return func(x api.Expr) []api.Expr {
		last := len(parts) - 1
		switch {
		case !isText(x):
			parts = append(parts, x)
		case x.Text == "":
			// It adds nothing to what is ahead.
		case last >= 0 && isText(parts[last]):
			parts[last].Text += x.Text
		default:
			parts = append(parts, x)
		}
		return parts
	}
}

func text(s string) api.Expr { return api.Expr{Kind: api.ExText, Text: s} }

// hole answers the part of a hole in which s stands; false, if there is none.
func hole(s string) (api.Expr, bool) {
	// An attribute's own point stands behind the first one.
	name, attr, dotted := strings.Cut(s, ".")
	switch {
	case !runes.Name(name) || dotted && !Attr(attr):
		return api.Expr{}, false
	case dotted:
		return api.Expr{Kind: api.ExAtt, Name: name, Attr: attr}, true
	}
	return api.Expr{Kind: api.ExRef, Name: name}, true
}
