package sub_test

import (
	"slices"
	"strings"
	"testing"

	"hoarding/api"
	"hoarding/sub"
)

// P12.2: no parts, each kind alone, several.
func TestWrite(t *testing.T) {
	writes(t, "")
	writes(t, "", exprs{}...)
	writes(t, "a", text("a"))
	writes(t, "${A}", ref("A"))
	writes(t, "${A.Arn}", att("A", "Arn"))
	writes(t, "${A.Outputs}", att("A", "Outputs"))
	writes(t, "${A.Outputs.B}", att("A", "Outputs.B"))
	writes(t, "a-${B}-${C.Arn}", text("a-"), ref("B"), text("-"), att("C", "Arn"))
	writes(t, "${A}${A}${B.C}${B.C}${A}", ref("A"), ref("A"), att("B", "C"), att("B", "C"), ref("A"))
	writes(t, "x${A}y${B}z", text("x"), ref("A"), text("y"), ref("B"), text("z"))
	writes(t, "${"+longest()+"}", ref(longest()))
	writes(t, "${"+longest()+".Outputs."+longest()+"}", att(longest(), "Outputs."+longest()))
	writes(t, "$${A}$", text("$"), ref("A"), text("$"))
	// Lists of nothing and none are alike.
	writes(t, "a${A}${B.C}", api.Expr{Kind: api.ExText, Text: "a", L: exprs{}}, api.Expr{Kind: api.ExRef, Name: "A", L: exprs{}}, api.Expr{Kind: api.ExAtt, Name: "B", Attr: "C", L: exprs{}})
}

// P12.2: texts with $, { and }, of which only ${ is written otherwise.
func TestWriteTexts(t *testing.T) {
	for _, s := range []string{" ", "\x00\n\"\\", "\u20ac\U0010ffff", "$", "$$", "{", "}", "{}", "$}", "{$", "$ {A}", "!", "$!{A}", "}{", "{A}", "A.B", strings.Repeat("$", 10000), strings.Repeat("a", 100000)} {
		writes(t, s, text(s))
	}
	for s, want := range map[string]string{
		"${x}":            "${!x}",
		"${}":             "${!}",
		"a${x}b":          "a${!x}b",
		"$${x}":           "$${!x}",
		"${x}$":           "${!x}$",
		"${x}}":           "${!x}}",
		"}${x}":           "}${!x}",
		"}}${x}{":         "}}${!x}{",
		"${!x}":           "${!!x}",
		"${!}":            "${!!}",
		"${${}":           "${!${}",
		"${a${b}":         "${!a${b}",
		"${a${b}c}":       "${!a${b}c}",
		"${a${!b}":        "${!a${!b}",
		"${a${b}${c}":     "${!a${b}${!c}",
		"${a}${b}":        "${!a}${!b}",
		"${a}x${b}y${c}":  "${!a}x${!b}y${!c}",
		"${a b\n\u20ac.}": "${!a b\n\u20ac.}",
		"${\u20ac}${":     "",
		"${":              "",
		"a${":             "",
		"${a":             "",
		"$${":             "",
		"${${":            "",
		"${!a":            "",
		"}${":             "",
		"}}${a":           "",
		"{}${":            "",
		"${a}${":          "",
		"${a}${b":         "",
		"${a${b}${c":      "",
		"${a}}${!":        "",
	} {
		if want == "" {
			writesNone(t, api.ErrSub, text(s))
			// What stands behind, in another part, ends nothing.
			writesNone(t, api.ErrSub, text(s), ref("A"), text("}"))
			writesNone(t, api.ErrSub, ref("A"), text("}"), ref("A"), text(s), att("A", "B"))
			continue
		}
		writes(t, want, text(s))
		writes(t, "${A}"+want+"${B.C}"+want, ref("A"), text(s), att("B", "C"), text(s))
	}
}

// P12.2: as long a text as is told, and none is too long.
func TestWriteLong(t *testing.T) {
	a := strings.Repeat("a", api.MaxText)
	writes(t, a, text(a))
	writes(t, a+"${A}", text(a), ref("A"))
	writes(t, strings.Repeat("${!}", 100000), text(strings.Repeat("${}", 100000)))
	writes(t, strings.Repeat("${A}", 100000), slices.Repeat(exprs{ref("A")}, 100000)...)
	writes(t, "${!"+strings.Repeat("${", 100000)+"}", text("${"+strings.Repeat("${", 100000)+"}"))
	writesNone(t, api.ErrSub, text(strings.Repeat("${", 100000)))
	writesNone(t, api.ErrSub, text(strings.Repeat("${}", 100000)+"${"))
}

// wrongParts are parts that may not be.
func wrongParts() exprs {
	l := exprs{
		text(""), text("\xff"), text("a\xe2\x82"), text("\xed\xa0\x80"), text("${\xff"), text("${a}\x80"),
		{Kind: api.ExText, Name: "A"}, {Kind: api.ExText, Text: "a", Name: "A"}, {Kind: api.ExText, Text: "a", Attr: "A"}, {Kind: api.ExText, Text: "a", Num: 1}, {Kind: api.ExText, Text: "a", Num: -1 << 63}, {Kind: api.ExText, Text: "a", L: exprs{text("b")}}, {Kind: api.ExText, Text: "a", L: exprs{{}}},
		{Kind: api.ExRef, Name: "A", Text: "a"}, {Kind: api.ExRef, Name: "A", Attr: "B"}, {Kind: api.ExRef, Name: "A", Num: 1}, {Kind: api.ExRef, Name: "A", L: exprs{{}}}, {Kind: api.ExRef, Text: "A"}, {Kind: api.ExRef, Attr: "A"},
		{Kind: api.ExAtt, Name: "A", Attr: "B", Text: "a"}, {Kind: api.ExAtt, Name: "A", Attr: "B", Num: -1}, {Kind: api.ExAtt, Name: "A", Attr: "B", L: exprs{{}}}, {Kind: api.ExAtt, Name: "A"}, {Kind: api.ExAtt, Attr: "B"}, {Kind: api.ExAtt, Text: "A.B"}, {Kind: api.ExAtt, Name: "A.B"},
	}
	for _, name := range []string{"", " ", "1", "1A", "A ", " A", ".", "A.B", "A.", ".A", "Outputs.A", "A}", "${A}", "\u00e9", "\xff", tooLong(), strings.Repeat("A", 100000)} {
		l = append(l, ref(name), att(name, "Arn"), att(name, "Outputs.B"))
	}
	for _, attr := range []string{"", " ", "1", "1B", "B ", " B", ".", ".B", "B.", "B.C", "Outputs.", "Outputs..B", "Outputs.1", "Outputs.B.C", "Outputs.B.", "Outputs.Outputs.B", "outputs.B", "B}", "\u00e9", "\xff", tooLong(), "Outputs." + tooLong()} {
		l = append(l, att("A", attr))
	}
	for kind := -128; kind < 128; kind++ {
		if k := int8(kind); k != api.ExText && k != api.ExRef && k != api.ExAtt {
			l = append(l, api.Expr{Kind: k}, api.Expr{Kind: k, Text: "a"}, api.Expr{Kind: k, Name: "A"}, api.Expr{Kind: k, Name: "A", Attr: "B"}, api.Expr{Kind: k, Num: 1}, api.Expr{Kind: k, L: exprs{text("a")}})
		}
	}
	return l
}

// P12.2: parts that may not be, wherever they stand.
func TestWrongParts(t *testing.T) {
	for _, x := range wrongParts() {
		writesNone(t, api.ErrArg, x)
		writesNone(t, api.ErrArg, x, x)
		writesNone(t, api.ErrArg, ref("A"), x)
		writesNone(t, api.ErrArg, x, att("A", "B"))
		writesNone(t, api.ErrArg, text("a"), ref("A"), x, ref("A"), text("a"))
		// ErrArg goes ahead of ErrSub, wherever what is wrong stands.
		writesNone(t, api.ErrArg, text("${"), ref("A"), x)
		writesNone(t, api.ErrArg, x, ref("A"), text("${"))
	}
}

// P12.2: two texts, one behind the other.
func TestTwoTexts(t *testing.T) {
	writesNone(t, api.ErrArg, text("a"), text("b"))
	writesNone(t, api.ErrArg, text("a"), text("a"))
	writesNone(t, api.ErrArg, text("$"), text("{A}"))
	writesNone(t, api.ErrArg, text("${"), text("}"))
	writesNone(t, api.ErrArg, text("${"), text("${"))
	writesNone(t, api.ErrArg, text("a"), text(""))
	writesNone(t, api.ErrArg, text(""), text("a"))
	writesNone(t, api.ErrArg, ref("A"), text("a"), text("b"), ref("A"))
	writesNone(t, api.ErrArg, text("a"), ref("A"), text("b"), text("c"))
	writesNone(t, api.ErrArg, text("a"), text("b"), text("${"))
	writesNone(t, api.ErrArg, text("${"), ref("A"), text("a"), text("b"))
	writes(t, "a${A}b", text("a"), ref("A"), text("b"))
	writes(t, "${A}${B}", ref("A"), ref("B"))
}

// R1: a part that holds itself.
func TestPartInItself(t *testing.T) {
	for _, kind := range []int8{api.ExText, api.ExRef, api.ExAtt, api.ExSub, 100} {
		l := exprs{{Kind: kind, Text: "a", Name: "A", Attr: "B"}}
		l[0].L = l
		if s, e := sub.Write(l); s != "" || e != api.ErrArg {
			t.Errorf("%d: %q, %d", kind, s, e)
		}
	}
}
