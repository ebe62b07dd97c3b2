package params_test

import (
	"regexp"
	"slices"
	"testing"
	"unicode/utf8"

	"hoarding/api"
	"hoarding/params"
)

// Here is a second reading of the chapter, which asks nothing of the program: a value that may be is told by its field, and told apart by it.

var nameSigns = regexp.MustCompile(`\A[A-Za-z][A-Za-z0-9]{0,31}\z`)

// wantKind tells whether a value may be, and is of the kind.
func wantKind(v api.Value, isNumber bool) bool {
	if isNumber {
		return same(v, api.Value{Kind: api.Number, Num: v.Num}) && v.Num <= 1<<53 && v.Num >= -1<<53
	}
	return same(v, api.Value{Kind: api.Text, Text: v.Text}) && utf8.ValidString(v.Text) && len(v.Text) <= 64
}

// wantParam tells whether a parameter may be.
func wantParam(p api.Param) bool {
	if !nameSigns.MatchString(p.Name) || len(p.Allowed) > 8 {
		return false
	}
	seen := map[[2]any]bool{}
	for _, v := range p.Allowed {
		if !wantKind(v, p.Number) || seen[[2]any{v.Num, v.Text}] {
			return false
		}
		seen[[2]any{v.Num, v.Text}] = true
	}
	if !p.Has {
		return same(p.Default, api.Value{})
	}
	return wantKind(p.Default, p.Number) && (len(seen) == 0 || seen[[2]any{p.Default.Num, p.Default.Text}])
}

// wantMay tells whether a parameter's value may be g's.
func wantMay(p api.Param, g api.Given) bool {
	if !wantParam(p) {
		return false
	}
	if g.Unknown {
		return same(g.V, api.Value{}) && !p.Number && len(p.Allowed) == 0
	}
	if !wantKind(g.V, p.Number) {
		return false
	}
	for _, v := range p.Allowed {
		if v.Num == g.V.Num && v.Text == g.V.Text {
			return true
		}
	}
	return len(p.Allowed) == 0
}

func wantCheck(l rowOfParams) api.Errno {
	if len(l) > 6 {
		return api.ErrLong
	}
	last := ""
	for _, p := range l {
		if !wantParam(p) || p.Name <= last {
			return api.ErrArg
		}
		last = p.Name
	}
	return api.OK
}

func wantBind(l rowOfParams, in givens) (givens, string, api.Errno) {
	if e := wantCheck(l); e != api.OK {
		return nil, "", e
	}
	values := map[string]api.Given{}
	for i, g := range in {
		if i > 0 && g.Name <= in[i-1].Name {
			return nil, "", api.ErrArg
		}
		values[g.Name] = g
	}
	named := map[string]bool{}
	for _, p := range l {
		named[p.Name] = true
	}
	for _, g := range in {
		if !named[g.Name] {
			return nil, g.Name, api.ErrParam
		}
	}
	var out givens
	for _, p := range l {
		g, ok := values[p.Name]
		switch {
		case ok && wantMay(p, g):
			out = append(out, g)
		case !ok && p.Has:
			out = append(out, given(p.Name, p.Default))
		default:
			return nil, p.Name, api.ErrParam
		}
	}
	return out, "", api.OK
}

// allParams are all parameters that a few names, defaults and allowed values make.
func allParams() (out rowOfParams) {
	values := []api.Value{{}, a("a"), a("b"), a(""), a(longest()), a(longest() + "w"), a("\xff"), n(0), n(1), n(2), n(api.MaxNumber), n(api.MaxNumber + 1), list(a("a")), {Kind: api.Text, Text: "a", Num: 1}, {Kind: api.Number, Num: 1, Text: "a"}, {Text: "a"}}
	allowed := [][]api.Value{nil, {}, {a("a")}, {a("b"), a("a")}, {a("a"), a("a")}, {n(2), n(1)}, {n(1), n(1)}, {n(1), a("a")}, {a("\xff")}, {a(longest())}, {a(longest() + "w"), a("a")}, {n(api.MaxNumber)}, {n(1), n(api.MaxNumber + 1)}, {{}}, {n(0), a("")}, text("", "a", "b", "c", "d", "e", "f", "g", "h").Allowed, number("", 0, 1, 2, 3, 4, 5, 6, 7, 8).Allowed}
	for _, name := range []string{"A", "a1", "", "1a", "A_", "N7777777777777777777777777777777", "N77777777777777777777777777777777"} {
		for _, l := range allowed {
			for _, v := range values {
				for bits := range 4 {
					out = append(out, api.Param{Name: name, Number: bits&1 == 1, Has: bits&2 == 2, Default: v, Allowed: l})
				}
			}
		}
	}
	return out
}

// P14.1: all parameters of a few choices, with all values of a few, held against the second reading.
func TestAllMay(t *testing.T) {
	values := givens{unknown("x")}
	for _, v := range slices.Concat(words(), numbers(), others()[:20]) {
		values = append(values, given("x", v), api.Given{Unknown: true, V: v})
	}
	good, fit := 0, 0
	for _, p := range allParams() {
		want := wantParam(p)
		if e := params.Check(rowOfParams{p}); (e == api.OK) != want || e != api.OK && e != api.ErrArg {
			t.Errorf("Check of %s: %d", brief(p), e)
		}
		for _, g := range values {
			want := wantMay(p, g)
			if got := params.May(p, g); got != want {
				t.Errorf("May of %s, %s: %v", brief(p), brief(g), got)
			}
			if want {
				fit++
			}
		}
		if want {
			good++
		}
	}
	if good < 100 || fit < 500 {
		t.Errorf("%d parameters may be, %d values fit", good, fit)
	}
}

// allRows are all rows that choices make: of each in order, one or none.
func allRows[T any](choices ...[]T) [][]T {
	out := [][]T{nil}
	for _, some := range choices {
		for _, l := range out {
			for _, x := range some {
				out = append(out, append(l[:len(l):len(l)], x))
			}
		}
	}
	return out
}

// rowsOfParams are all rows of a few parameters of three names; some may not be.
func rowsOfParams() (out []rowOfParams) {
	var choices []rowOfParams
	for _, name := range []string{"A", "B", "C"} {
		wrong := text(name)
		wrong.Default = a("a")
		choices = append(choices, rowOfParams{text(name), or(text(name), a("d")), or(text(name, "a", "d"), a("d")), text(name, "a", "d"), or(number(name), n(1)), number(name, 1, 2), wrong})
	}
	for i, l := range allRows(choices...) {
		out = append(out, l)
		// Some also the other way about.
		if i%10 == 0 {
			l = slices.Clone(l)
			slices.Reverse(l)
			out = append(out, l)
		}
	}
	return out
}

// rowsOfGivens are all rows of a few values of four names, one of which is no parameter's.
func rowsOfGivens() (out []givens) {
	var choices []givens
	for _, name := range []string{"A", "B", "BB", "C"} {
		choices = append(choices, givens{given(name, a("a")), given(name, n(1)), unknown(name), {Name: name, Unknown: true, V: a("a")}})
	}
	for i, l := range allRows(choices...) {
		out = append(out, l)
		if i%10 == 0 {
			l = slices.Clone(l)
			slices.Reverse(l)
			out = append(out, l)
		}
	}
	return out
}

// P14.1, P14.2, P14.3: all rows of a few parameters, with all rows of a few values, held against the second reading; and what is bound bound again, and with fewer given.
func TestAllBind(t *testing.T) {
	told := map[api.Errno]int{}
	ins := rowsOfGivens()
	for _, l := range rowsOfParams() {
		if e := params.Check(l); e != wantCheck(l) {
			t.Errorf("Check of %s: %d", brief(l), e)
		}
		for _, in := range ins {
			want, name, e := wantBind(l, in)
			if e != api.OK {
				refuses(t, l, in, e, name)
			} else {
				binds(t, l, in, want...)
			}
			told[e]++
		}
	}
	if told[api.OK] < 1000 || told[api.ErrArg] < 1000 || told[api.ErrParam] < 1000 {
		t.Error(told)
	}
}

// P14.3: of what is bound each value whose parameter has a default can be left out: then it is the default.
func TestAllFewer(t *testing.T) {
	left := 0
	for _, l := range rowsOfParams() {
		for _, in := range rowsOfGivens() {
			bound, _, e := params.Bind(l, in)
			if e != api.OK {
				continue
			}
			for i, p := range l {
				fewer, want := slices.Delete(slices.Clone(bound), i, i+1), slices.Clone(bound)
				if want[i] = given(p.Name, p.Default); p.Has {
					binds(t, l, fewer, want...)
					left++
				} else {
					refuses(t, l, fewer, api.ErrParam, p.Name)
				}
			}
		}
	}
	if left < 1000 {
		t.Error(left)
	}
}
