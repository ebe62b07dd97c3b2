package conds_test

import (
	"regexp"
	"slices"
	"testing"
	"unicode/utf8"

	"hoarding/api"
	"hoarding/conds"
	"hoarding/tree"
)

// Here is a second reading of the chapter, which asks of the program no more than tree's Equal: what may be is told by its fields and put together again, what holds by writing out what is named.

var nameSigns = regexp.MustCompile(`\A[A-Za-z][A-Za-z0-9]{0,31}\z`)

// wantPlain answers the value of an expression; false, if it is not plain.
func wantPlain(x api.Expr, params givens) (api.Given, bool) {
	switch {
	case same(x, api.Expr{Text: x.Text}):
		return given("", api.Value{Kind: api.Text, Text: x.Text}), utf8.ValidString(x.Text)
	case same(x, api.Expr{Kind: api.ExNumber, Num: x.Num}):
		return given("", api.Value{Kind: api.Number, Num: x.Num}), x.Num <= 1<<53 && x.Num >= -1<<53
	case same(x, api.Expr{Kind: api.ExRef, Name: x.Name}):
		for _, g := range params {
			if g.Name == x.Name && g.Unknown {
				return unknown(""), true
			}
			if g.Name == x.Name {
				return given("", g.V), true
			}
		}
	}
	return api.Given{}, false
}

// wantMay tells whether a part may be, so deep.
func wantMay(c api.Cond, deep int, all row, params givens) bool {
	most := 4
	switch {
	case deep > 6:
		return false
	case same(c, api.Cond{A: c.A, B: c.B}):
		_, a := wantPlain(c.A, params)
		_, b := wantPlain(c.B, params)
		return a && b
	case same(c, api.Cond{Kind: api.CoName, Name: c.Name}):
		return slices.ContainsFunc(all, func(d api.Cond) bool { return d.Name == c.Name })
	case same(c, api.Cond{Kind: api.CoNot, L: c.L}):
		most = 1
	case !same(c, api.Cond{Kind: api.CoAnd, L: c.L}) && !same(c, api.Cond{Kind: api.CoOr, L: c.L}):
		return false
	}
	for _, d := range c.L {
		if !wantMay(d, deep+1, all, params) {
			return false
		}
	}
	return len(c.L) >= 1 && len(c.L) <= most
}

// wantNames answers the names in c, each once.
func wantNames(c api.Cond) (l names) {
	if c.Kind == api.CoName {
		l = names{c.Name}
	}
	for _, d := range c.L {
		for _, name := range wantNames(d) {
			if !slices.Contains(l, name) {
				l = append(l, name)
			}
		}
	}
	return l
}

const nowhere = 1000 // more steps than there are

// ways answers from each condition to each the fewest steps, one at least.
func ways(l row) [][]int {
	far := make([][]int, len(l))
	for i, c := range l {
		far[i] = slices.Repeat([]int{nowhere}, len(l))
		for _, name := range wantNames(c) {
			if j := slices.IndexFunc(l, func(d api.Cond) bool { return d.Name == name }); j >= 0 {
				far[i][j] = 1
			}
		}
	}
	for by := range l {
		for i := range l {
			for j := range l {
				far[i][j] = min(far[i][j], far[i][by]+far[by][j])
			}
		}
	}
	return far
}

// wantCircle answers the circle of the first that is in one.
func wantCircle(l row) (out names) {
	far := ways(l)
	first := 0
	for first < len(l) && far[first][first] >= nowhere {
		first++
	}
	for at := first; at < len(l); {
		out = append(out, l[at].Name)
		next, least := 0, nowhere
		for _, name := range wantNames(l[at]) {
			i := slices.IndexFunc(l, func(c api.Cond) bool { return c.Name == name })
			if i == first {
				return out
			}
			if i >= 0 && far[i][first] < least {
				next, least = i, far[i][first]
			}
		}
		at = next
	}
	return nil
}

func wantCheck(l row, params givens) api.Errno {
	if len(l) > 6 {
		return api.ErrLong
	}
	for i, c := range l {
		if slices.ContainsFunc(l[:i], func(d api.Cond) bool { return d.Name == c.Name }) {
			return api.ErrTwice
		}
		if !nameSigns.MatchString(c.Name) || c.Kind == api.CoName || !wantMay(is("", c), 1, l, params) {
			return api.ErrCond
		}
	}
	for i, far := range ways(l) {
		if far[i] < nowhere {
			return api.ErrCond
		}
	}
	return api.OK
}

// wantHolds answers 1 of a condition that holds, 0 of another; false, if it wants what is unknown.
func wantHolds(c api.Cond, all row, params givens) (many int, ok bool) {
	if c.Kind == api.CoEquals {
		a, _ := wantPlain(c.A, params)
		b, _ := wantPlain(c.B, params)
		if tree.Equal(a.V, b.V) {
			many = 1
		}
		return many, !a.Unknown && !b.Unknown
	}
	if c.Kind == api.CoName {
		i := slices.IndexFunc(all, func(d api.Cond) bool { return d.Name == c.Name })
		return wantHolds(all[i], all, params)
	}
	every, some, ok := 1, 0, true
	for _, d := range c.L {
		holds, known := wantHolds(d, all, params)
		every, some, ok = every*holds, max(some, holds), ok && known
	}
	return map[int8]int{api.CoAnd: every, api.CoOr: some, api.CoNot: 1 - some}[c.Kind], ok
}

func wantRun(l row, params givens) (out givens, e api.Errno) {
	if e := wantCheck(l, params); e != api.OK {
		return nil, e
	}
	for _, c := range l {
		holds, ok := wantHolds(c, l, params)
		if !ok {
			return nil, api.ErrCond
		}
		out = append(out, given(c.Name, api.Value{Kind: api.Bool, Bool: holds == 1}))
	}
	return out, api.OK
}

// second holds all calls against the second reading, and tells Run's error.
func second(t *testing.T, l row, params givens) api.Errno {
	t.Helper()
	var in names
	for _, g := range params {
		in = append(in, g.Name)
	}
	if e, want := conds.Check(l, in), wantCheck(l, params); e != want {
		t.Errorf("Check of %s, %q: %d, not %d", brief(l), in, e, want)
	}
	out, e := conds.Run(l, params)
	if want, f := wantRun(l, params); e != f || !same(out, want) {
		t.Errorf("Run of %s, %s: %s, %d, not %s, %d", brief(l), brief(params), brief(out), e, brief(want), f)
	}
	for _, c := range l {
		namesAre(t, c, wantNames(c)...)
	}
	circles(t, l, wantCircle(l)...)
	return e
}

// someExprs are expressions of all kinds, some with a field more.
func someExprs() exprs {
	l := exprs{text("a"), text("\xff"), num(1), num(api.MaxNumber), num(api.MaxNumber + 1), num(-api.MaxNumber), num(-api.MaxNumber - 1), ref("P"), ref("Q"), ref("U"), ref("R"), ref("A"), ref(""), ref("9"), {Kind: api.ExSub, L: exprs{ref("P")}}, {Kind: api.ExIf, Name: "A", L: exprs{text("a"), num(1)}}, {Kind: api.ExAtt, Name: "P", Attr: "Arn"}, {Kind: api.ExList}, {Kind: api.ExJoin}, {Kind: api.ExSelect}, {Kind: -1}, {Kind: 9}}
	for _, x := range (exprs{{}, num(0), ref("P"), {Kind: 9, Name: "P"}}) {
		l = append(append(l, x), oddExprs(x)...)
	}
	return l
}

// P15.1, P15.2: each expression by each, in Equals.
func TestAllEquals(t *testing.T) {
	told := map[api.Errno]int{}
	l := someExprs()
	for _, x := range l {
		got, e := conds.Plain(x, known())
		if want, ok := wantPlain(x, known()); (e == api.OK) != ok || e != api.OK && e != api.ErrCond || ok && !same(got, want) {
			t.Errorf("Plain of %s: %s, %d", brief(x), brief(got), e)
		}
		for _, y := range l {
			told[second(t, row{is("A", equals(x, y)), is("B", not(equals(y, x)))}, known())]++
		}
	}
	if told[api.OK] < 30 || told[api.ErrCond] < 1000 || len(told) != 2 {
		t.Error(told)
	}
}

// P15.1, P15.2: conditions of all kinds, with up to two parts of a few, one field more, and 1 to 7 deep.
func TestAllConds(t *testing.T) {
	parts := row{yes(), no(), equals(ref("U"), num(1)), equals(text("\xff"), num(1)), cond("A"), cond("B"), cond("D"), and(no(), yes()), or(cond("A")), not(no()), is("A", yes()), {Kind: 5}, and(), not(yes(), yes())}
	told := map[api.Errno]int{}
	for kind := api.CoEquals - 1; kind <= api.CoName+1; kind++ {
		bodies := row{{Kind: kind}}
		for _, x := range parts {
			bodies = append(bodies, api.Cond{Kind: kind, L: row{x}})
			for _, y := range parts {
				bodies = append(bodies, api.Cond{Kind: kind, L: row{x, y}})
			}
		}
		for _, c := range bodies {
			for _, d := range append(oddConds(c), c, is("A", c), deep(5, c), deep(6, c), and(c, not(c))) {
				for _, name := range []string{"B", "A", ""} {
					told[second(t, row{is("A", yes()), is(name, d), is("C", not(cond("A")))}, known())]++
				}
			}
		}
	}
	if told[api.OK] < 300 || told[api.ErrTwice] < 1000 || told[api.ErrCond] < 1000 {
		t.Error(told)
	}
}

// P15.1, P15.2: all lists of up to three of a few definitions.
func TestAllLists(t *testing.T) {
	var l row
	for _, name := range []string{"A", "B", "C"} {
		for _, c := range []api.Cond{yes(), not(equals(ref("P"), text("a"))), equals(ref("U"), num(1)), not(cond("A")), not(cond("B")), and(cond("C"), cond("A")), or(cond("B"), cond("C")), cond(name), not(cond("D"))} {
			l = append(l, is(name, c))
		}
	}
	l = append(l, is("9", yes()), is("", not(cond(""))), is("B", and()))
	told := map[api.Errno]int{}
	for _, x := range l {
		told[second(t, row{x}, known())]++
		for _, y := range l {
			told[second(t, row{x, y}, known())]++
			for _, z := range l {
				told[second(t, row{x, y, z}, known())]++
			}
		}
	}
	if told[api.OK] < 300 || told[api.ErrTwice] < 1000 || told[api.ErrCond] < 1000 {
		t.Error(told)
	}
}

// graphOf answers definitions A, B and so on, each of which names those that it is told.
func graphOf(to ...string) (l row) {
	for i, s := range to {
		var of names
		for _, r := range s {
			of = append(of, string(r))
		}
		l = append(l, naming(string(rune('A'+i)), of...))
	}
	return l
}

// ordered answers all rows of some of these letters, each once.
func ordered(letters string) []string {
	out := []string{""}
	for i, r := range letters {
		for _, rest := range ordered(letters[:i] + letters[i+1:]) {
			out = append(out, string(r)+rest)
		}
	}
	return out
}

// P15.1: Circle of all graphs of three, in all orders of names; of all of four; and of some of up to eight, of which some name what is not there.
func TestAllCircles(t *testing.T) {
	n := 0
	ask := func(to ...string) {
		l := graphOf(to...)
		want := wantCircle(l)
		if len(want) > 0 {
			n++
		}
		circles(t, l, want...)
		slices.Reverse(l)
		circles(t, l, wantCircle(l)...)
	}
	three := ordered("ABC")
	for _, a := range three {
		for _, b := range three {
			for _, c := range three {
				ask(a, b, c)
			}
		}
	}
	subset := func(bits int, letters string) (s string) {
		for i, r := range letters {
			if bits>>i&1 == 1 {
				s += string(r)
			}
		}
		return s
	}
	for bits := range 1 << 16 {
		ask(subset(bits&15, "ABCD"), subset(bits>>4&15, "DCBA"), subset(bits>>8&15, "BADC"), subset(bits>>12&15, "CDAB"))
	}
	seed := uint32(1)
	for i := range 40000 {
		letters := "HDBFAGCE"[:5+i%4]
		var to names
		for range letters {
			// Some of all, mostly one or two: else all circles are short.
			seed = seed*1664525 + 1013904223
			bits := int(seed >> 24)
			if seed>>20&3 != 0 {
				bits &= int(seed >> 12)
				bits &= int(seed >> 9)
			}
			to = append(to, subset(bits, letters))
		}
		ask(to...)
	}
	if n < 10000 {
		t.Error(n)
	}
}
