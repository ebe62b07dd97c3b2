package params_test

import (
	"slices"
	"strings"
	"testing"

	"hoarding/api"
	"hoarding/params"
)

func checks(t *testing.T, want api.Errno, l ...api.Param) {
	t.Helper()
	if e := params.Check(l); e != want {
		t.Errorf("Check of %s: %d, not %d", brief(l), e, want)
	}
}

// may wants p to be one that may be, or none: by itself, and among others.
func may(t *testing.T, p api.Param, want bool) {
	t.Helper()
	e := api.ErrArg
	if want {
		e = api.OK
	}
	checks(t, e, p)
	p.Name = "M" + p.Name
	if len(p.Name) <= api.MaxName {
		checks(t, e, text("A"), p, or(number("Z", 1), n(1)))
	}
}

// P14.1: names that are none.
func TestCheckName(t *testing.T) {
	for _, p := range []api.Param{text(""), number(""), or(text("", "a"), a("a"))} {
		for _, name := range []string{"A", "z", "P9", "aZ0", "N" + strings.Repeat("9", api.MaxName-1)} {
			p.Name = name
			checks(t, api.OK, p)
		}
		for _, name := range []string{"", "9", "9A", "_", "A_", "A ", " A", "A.B", "\u00e9", "A\u00e9", "A\x00", "\xff", "N" + strings.Repeat("9", api.MaxName)} {
			p.Name = name
			checks(t, api.ErrArg, p)
			checks(t, api.ErrArg, p, text("\xff\xff"))
		}
	}
}

// P14.1: defaults of the parameter's kind, of another, and such as may not be.
func TestCheckDefault(t *testing.T) {
	for _, v := range words() {
		may(t, or(text("P"), v), true)
		may(t, or(number("P"), v), false)
	}
	for _, v := range numbers() {
		may(t, or(number("P"), v), true)
		may(t, or(text("P"), v), false)
	}
	for _, v := range others() {
		may(t, or(text("P"), v), false)
		may(t, or(number("P"), v), false)
	}
}

// P14.1: with no default its field is zero, whatever else there is.
func TestCheckNoDefault(t *testing.T) {
	for _, p := range []api.Param{text("P"), number("P"), text("P", "a", "b"), number("P", 1, 2)} {
		may(t, p, true)
		for _, v := range []api.Value{{List: []api.Value{}}, {Keys: []string{}}, {List: []api.Value{}, Keys: []string{}}} {
			p.Default = v
			may(t, p, true)
		}
		for _, v := range slices.Concat(words(), numbers(), others()[1:], []api.Value{{Kind: 1}, {Bool: true}, {Num: 1}, {Num: -1}, {Text: " "}, {List: []api.Value{{}}}, {Keys: []string{""}}}) {
			p.Default = v
			may(t, p, false)
		}
	}
}

// P14.1: what is allowed is of the parameter's kind.
func TestCheckAllowed(t *testing.T) {
	for _, good := range []struct {
		p    api.Param
		l    []api.Value
		some api.Value
	}{{text("P"), words(), a("z")}, {number("P"), numbers(), n(9)}} {
		p := good.p
		for _, v := range good.l {
			for _, l := range [][]api.Value{{v}, {good.some, v}, {v, good.some}, {good.some, v, good.l[0]}} {
				p.Allowed = l
				may(t, p, len(l) < 3 || !same(v, good.l[0]))
			}
		}
		wrong := append(others(), numbers()...)
		if p.Number {
			wrong = append(others(), words()...)
		}
		for _, v := range wrong {
			for _, l := range [][]api.Value{{v}, {good.some, v}, {v, good.some}, {good.l[0], v, good.l[1]}} {
				p.Allowed = l
				may(t, p, false)
				may(t, or(p, good.some), false)
				may(t, or(p, v), false)
			}
		}
		p.Allowed = []api.Value{}
		may(t, p, true)
		may(t, or(p, good.l[0]), true)
	}
}

// P14.1: none, as many as may be, one more; none twice, wherever the two stand.
func TestCheckAllowedMany(t *testing.T) {
	letters := strings.Split("a b c d e f g h i j k l", " ")
	digits := []int{5, 4, 3, 2, 1, 0, -1, -2, -3, -4, -5, -6}
	for i := range len(letters) {
		may(t, text("P", letters[:i]...), i <= api.MaxList)
		may(t, number("P", digits[:i]...), i <= api.MaxList)
	}
	may(t, text("P", slices.Repeat([]string{"a"}, 100000)...), false)
	for i := range api.MaxList {
		for j := range i {
			some, few := slices.Clone(letters[:i+1]), slices.Clone(digits[:i+1])
			some[i], few[i] = some[j], few[j]
			may(t, text("P", some...), false)
			may(t, number("P", few...), false)
		}
	}
	twice := text("P", "a")
	twice.Allowed = append(twice.Allowed, api.Value{Kind: api.Text, Text: "a", List: []api.Value{}, Keys: []string{}})
	may(t, twice, false)
}

// P14.1: a default is one of those that are allowed, if there are any.
func TestCheckDefaultAllowed(t *testing.T) {
	some, few := text("P", "a", "b", ""), number("P", 1, -2, 0)
	for _, s := range []string{"a", "b", "", "c", "A", "a ", "ab", longest()} {
		may(t, or(some, a(s)), s == "a" || s == "b" || s == "")
	}
	for _, i := range []int{1, -2, 0, 2, -1, 10, api.MaxNumber} {
		may(t, or(few, n(i)), i == 1 || i == -2 || i == 0)
	}
	may(t, or(text("P", "1"), n(1)), false)
	may(t, or(number("P", 1), a("1")), false)
	may(t, or(text("P", "a"), api.Value{Kind: api.Text, Text: "a", Num: 1}), false)
	may(t, or(text("P", "a"), api.Value{Kind: api.Text, Text: "a", List: []api.Value{}}), true)
}

// P14.1: names that rise, fall, are alike.
func TestCheckNames(t *testing.T) {
	for names, want := range map[string]api.Errno{
		"A B": api.OK, "A B C": api.OK, "A A1 Aa B a": api.OK, "Z a": api.OK, "A10 A9": api.OK,
		"B A": api.ErrArg, "A A": api.ErrArg, "A C B": api.ErrArg, "B A C": api.ErrArg, "A B B": api.ErrArg, "A B A": api.ErrArg, "a Z": api.ErrArg, "A9 A10": api.ErrArg, "Aa A": api.ErrArg,
	} {
		for _, p := range []api.Param{text(""), or(number("", 1, 2), n(2))} {
			var l rowOfParams
			for _, name := range strings.Fields(names) {
				p.Name = name
				l = append(l, p)
			}
			checks(t, want, l...)
		}
	}
}

// alphabet answers so many parameters.
func alphabet(many int) (l rowOfParams) {
	for i := range many {
		l = append(l, text(string(rune('A'+i))))
	}
	return l
}

// P14.1: none, as many as may be, one more; one more, of which one may not be.
func TestCheckMany(t *testing.T) {
	checks(t, api.OK)
	if e := params.Check(rowOfParams{}); e != api.OK {
		t.Error(e)
	}
	for i := range api.MaxParams {
		checks(t, api.OK, alphabet(i+1)...)
	}
	for i := range api.MaxParams + 1 {
		l := alphabet(api.MaxParams + 1)
		checks(t, api.ErrLong, l...)
		l[i] = api.Param{Name: "9"}
		checks(t, api.ErrLong, l...)
		l = alphabet(api.MaxParams)
		l[i%api.MaxParams].Default = n(1)
		checks(t, api.ErrArg, l...)
	}
	checks(t, api.ErrLong, make(rowOfParams, api.MaxParams+1)...)
	checks(t, api.ErrLong, make(rowOfParams, 100000)...)
	checks(t, api.ErrArg, make(rowOfParams, api.MaxParams)...)
	checks(t, api.ErrArg, api.Param{})
}

// P14.1: Names of none, of some, in their order, whether or not the parameters may be.
func TestNames(t *testing.T) {
	for _, names := range [][]string{nil, {"A"}, {"A", "B", "C"}, {"C", "A", "B", "A"}, {"", "9", "\xff", ""}} {
		var l rowOfParams
		for i, name := range names {
			l = append(l, api.Param{Name: name, Number: i%2 == 0, Has: i%3 == 0})
		}
		if got := params.Names(l); !slices.Equal(got, names) {
			t.Errorf("%q, not %q", got, names)
		}
	}
	if got := params.Names(rowOfParams{}); len(got) != 0 {
		t.Error(got)
	}
	if got := params.Names(make(rowOfParams, 100000)); len(got) != 100000 {
		t.Error(len(got))
	}
}
