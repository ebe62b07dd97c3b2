package sub_test

import (
	"strings"
	"testing"

	"hoarding/api"
	"hoarding/sub"
)

// P12.1: texts without holes, and each $, { and } in them.
func TestPlain(t *testing.T) {
	lexes(t, "")
	for _, s := range []string{
		"a", " ", "\x00", "a b\n", "\u20ac\U0001f600", "\ufffd",
		"$", "$$", "$$$", "a$", "a$$", "$a", "$ {A}", "$\n{A}", "$\u20ac{A}", "$!{A}", "$.", "$1", "cost: 5$", "$A", "$A.B", "$(A)", "$[A]", "$!", "$}",
		"{", "}", "{}", "{A}", "}{", "}}", "{{", "{$}", "{A$}", "}$", "$}{", "{$", "{!x}", "!{x}", "!", "!$", "A.B", ".", "{A.B}",
	} {
		lexes(t, s, text(s))
	}
}

// P12.1: references and attributes, wherever they stand.
func TestHoles(t *testing.T) {
	for s, want := range map[string]exprs{
		"a-${B}-${C.Arn}": {text("a-"), ref("B"), text("-"), att("C", "Arn")},

		"${A}":           {ref("A")},
		"${A}x":          {ref("A"), text("x")},
		"x${A}":          {text("x"), ref("A")},
		"x${A}y":         {text("x"), ref("A"), text("y")},
		"${A}${B}":       {ref("A"), ref("B")},
		"${A}${A}":       {ref("A"), ref("A")},
		"${A}x${B}":      {ref("A"), text("x"), ref("B")},
		"${A}${B.Arn}":   {ref("A"), att("B", "Arn")},
		"${B.Arn}${A}":   {att("B", "Arn"), ref("A")},
		"${A} ${B}":      {ref("A"), text(" "), ref("B")},
		"\u20ac${A}\x00": {text("\u20ac"), ref("A"), text("\x00")},

		"${a1B2}":         {ref("a1B2")},
		"${A.Zone}":       {att("A", "Zone")},
		"${A.b}":          {att("A", "b")},
		"${A.A}":          {att("A", "A")},
		"${A.Outputs}":    {att("A", "Outputs")},
		"${A.Outputs.B}":  {att("A", "Outputs.B")},
		"${A.Outputs.A1}": {att("A", "Outputs.A1")},
		"${Outputs}":      {ref("Outputs")},
		"${Outputs.B}":    {att("Outputs", "B")},

		"${Outputs.Outputs}":         {att("Outputs", "Outputs")},
		"${Outputs.Outputs.Outputs}": {att("Outputs", "Outputs.Outputs")},

		"$${A}":     {text("$"), ref("A")},
		"$$${A}":    {text("$$"), ref("A")},
		"${A}$":     {ref("A"), text("$")},
		"${A}$$":    {ref("A"), text("$$")},
		"${A}$${B}": {ref("A"), text("$"), ref("B")},
		"x$${A}":    {text("x$"), ref("A")},
		"{${A}}":    {text("{"), ref("A"), text("}")},
		"${A}}":     {ref("A"), text("}")},
		"}${A}":     {text("}"), ref("A")},
		"${A}{B}":   {ref("A"), text("{B}")},
		"${A}!{B}":  {ref("A"), text("!{B}")},
		"!${A}!":    {text("!"), ref("A"), text("!")},
		"${A}.B":    {ref("A"), text(".B")},
		"$!${A}":    {text("$!"), ref("A")},
	} {
		lexes(t, s, want...)
	}
	for _, n := range []int{1, 2, api.MaxName - 1, api.MaxName} {
		name := longName(n)
		lexes(t, "${"+name+"}", ref(name))
		lexes(t, "x${"+name+"."+name+"}", text("x"), att(name, name))
		lexes(t, "${"+name+".Outputs."+name+"}x", att(name, "Outputs."+name), text("x"))
	}
}

// P12.1: ${!text}, beside holes and other texts: it is one text with them.
func TestKept(t *testing.T) {
	for s, want := range map[string]exprs{
		"${!x}":         {text("${x}")},
		"${!}":          {text("${}")},
		"${!A}":         {text("${A}")},
		"${!!}":         {text("${!}")},
		"${!!x}":        {text("${!x}")},
		"${! x\n}":      {text("${ x\n}")},
		"${!$}":         {text("${$}")},
		"${!{}":         {text("${{}")},
		"${!\u20ac}":    {text("${\u20ac}")},
		"${!1.2..}":     {text("${1.2..}")},
		"${!${}":        {text("${${}")},
		"${!${A}":       {text("${${A}")},
		"${!${A}}":      {text("${${A}}")},
		"${!a${!b}":     {text("${a${!b}")},
		"${!a${!b}c}":   {text("${a${!b}c}")},
		"${!${${}":      {text("${${${}")},
		"${!${A}${B}":   {text("${${A}"), ref("B")},
		"a${!x}":        {text("a${x}")},
		"${!x}b":        {text("${x}b")},
		"a${!x}b":       {text("a${x}b")},
		"${!x}${!y}":    {text("${x}${y}")},
		"${!}${!}${!}":  {text("${}${}${}")},
		"a${!x}b${!y}c": {text("a${x}b${y}c")},
		"$${!x}$":       {text("$${x}$")},
		"${!x}}":        {text("${x}}")},
		"${!x}{y}":      {text("${x}{y}")},
		"${!x}${A}":     {text("${x}"), ref("A")},
		"${A}${!x}":     {ref("A"), text("${x}")},
		"a${!x}b${A}c":  {text("a${x}b"), ref("A"), text("c")},
		"${A}${!x}${B}": {ref("A"), text("${x}"), ref("B")},
		"${A}a${!x}b":   {ref("A"), text("a${x}b")},
	} {
		lexes(t, s, want...)
	}
}

// P12.1: what stands in a hole that is none.
func TestNoNames(t *testing.T) {
	for _, inner := range []string{
		"", " ", "A ", " A", "A B", "1", "1A", "-", "A-", "A_B", "$", "$A", "A$", "{", "{A", "A{B", "${A", "A${B", "A!", "A!B", "\u00e9", "A\u00e9", "A\n", "\x00",
		".", "..", ".A", "A.", "A..", "..A", "A..B", "A.B.", "A.B.C", "A.1", "A.1B", "A. B", "A .B", " A.B", "A.B ", "A.-", "1.B", ".A.B", "A.!B", "A.\u00e9",
		"A.Outputs.", "A.Outputs..B", "A.Outputs.1", "A.Outputs. B", "A.Outputs.B.C", "A.Outputs.B.", "A.Outputs.Outputs.B", "A.outputs.B", "A.Output.B", "A.OutputsB.C", "A.B.Outputs", "A.B.Outputs.C", ".Outputs.B", "1.Outputs.B", "Outputs.A.B", "Outputs.", "A.Outputs B",
		tooLong(), tooLong() + ".B", "A." + tooLong(), "A.Outputs." + tooLong(), tooLong() + ".Outputs.B", strings.Repeat("A", 2000),
	} {
		refuses(t, "${"+inner+"}", 0, api.ErrSub)
		refuses(t, "${"+inner+"}}", 0, api.ErrSub)
		refuses(t, "$\u20ac${"+inner+"}", 4, api.ErrSub)
		refuses(t, "${A}${"+inner+"}${B}", 4, api.ErrSub)
		refuses(t, "$${!${"+inner+"}${"+inner+"}", 1+len("${!${"+inner+"}"), api.ErrSub)
		lexes(t, "${!"+inner+"}", text("${"+inner+"}"))
	}
}

// P12.1: holes that nothing ends.
func TestNoEnd(t *testing.T) {
	for _, s := range []string{"${", "${A", "${A.", "${A.B", "${A.Outputs.B", "${ A", "${{", "${$", "${${", "${A${B", "${!", "${!x", "${!x${", "${!x${!", "${!$", "${\n", "${\u20ac", "${" + strings.Repeat("A", 4000)} {
		refuses(t, s, 0, api.ErrSub)
		refuses(t, "$"+s, 1, api.ErrSub)
		refuses(t, "\u20ac}"+s, 4, api.ErrSub)
		refuses(t, "${A}"+s, 4, api.ErrSub)
		refuses(t, "${!A}x"+s, 6, api.ErrSub)
	}
}

// P12.1: of several holes that are none the place of the first.
func TestFirstHole(t *testing.T) {
	for s, at := range map[string]int{
		"${1}${2}": 0, "x${1}${": 1, "${A}${1}${B}${2}": 4, "${A.B}x${.}${..}": 7, "${A.}${!": 0, "${!A}${B}${}${}": 9, "${!${}${1}": 6, "${1${A}": 0, "${A}}${1": 5, "$$$${}${": 3, "$ ${ ${A}": 2,
	} {
		refuses(t, s, at, api.ErrSub)
	}
}

// P12.1: what is no text.
func TestNoText(t *testing.T) {
	for _, bad := range []string{"\xff", "\x80", "\xe2\x82", "\xc0\x80", "\xed\xa0\x80", "\xf4\x90\x80\x80"} {
		for _, s := range []string{bad, "a" + bad, bad + "a", "${A}" + bad, "$" + bad, "${" + bad + "}", "${!" + bad + "}", "${A." + bad + "}", "${" + bad} {
			refuses(t, s, 0, api.ErrText)
		}
	}
}

// P12.1: as many bytes as may be, and one more.
func TestLongTexts(t *testing.T) {
	fill := func(s string, n int) string { return strings.Repeat("a", n-len(s)) + s }
	for s, last := range map[string]exprs{"": nil, "${A}": {ref("A")}, "${A.Outputs.B}": {att("A", "Outputs.B")}} {
		n := api.MaxText
		lexes(t, fill(s, n-1), append(exprs{text(fill("", n-1-len(s)))}, last...)...)
		lexes(t, fill(s, n), append(exprs{text(fill("", n-len(s)))}, last...)...)
		refuses(t, fill(s, n+1), 0, api.ErrLong)
		refuses(t, fill(s, 1000*n), 0, api.ErrLong)
	}
	lexes(t, fill("$", api.MaxText), text(fill("$", api.MaxText)))
	lexes(t, fill("${!x}", api.MaxText), text(fill("${x}", api.MaxText-1)))
	lexes(t, strings.Repeat("$", api.MaxText), text(strings.Repeat("$", api.MaxText)))
	lexes(t, strings.Repeat("\u00e9", api.MaxText/2), text(strings.Repeat("\u00e9", api.MaxText/2)))
	// The bytes count, not the runes, nor what the parts have.
	refuses(t, strings.Repeat("\u00e9", api.MaxText/2)+"a", 0, api.ErrLong)
	refuses(t, strings.Repeat("${!}", api.MaxText/4)+"a", 0, api.ErrLong)
	refuses(t, fill("${", api.MaxText), api.MaxText-2, api.ErrSub)
	refuses(t, fill("${1}", api.MaxText), api.MaxText-4, api.ErrSub)
}

// P12.1: as many holes as have room.
func TestManyHoles(t *testing.T) {
	n := api.MaxText / 4
	var refs, mixed exprs
	for i := range n {
		refs = append(refs, ref("A"))
		if i%2 == 0 {
			mixed = append(mixed, text("x${}"))
		} else {
			mixed = append(mixed, att("B", "C"))
		}
	}
	lexes(t, strings.Repeat("${A}", n), refs...)
	lexes(t, strings.Repeat("${!}", n), text(strings.Repeat("${}", n)))
	lexes(t, strings.Repeat("x${!}${B.C}", 300), mixed[:600]...)
	refuses(t, strings.Repeat("${A}", n-1)+"${A", 4*n-4, api.ErrSub)
}

// P12.1, R2: what is no text goes ahead of what is too long, and that ahead of holes that are none.
func TestOrder(t *testing.T) {
	long := strings.Repeat("a", api.MaxText+1)
	refuses(t, "\xff"+long, 0, api.ErrText)
	refuses(t, long+"\xff", 0, api.ErrText)
	refuses(t, "${1}"+long+"\xff", 0, api.ErrText)
	refuses(t, "${1}\xff", 0, api.ErrText)
	refuses(t, "${\xff", 0, api.ErrText)
	refuses(t, "x${1}"+long, 0, api.ErrLong)
	refuses(t, "x${"+long, 0, api.ErrLong)
	refuses(t, long+"${}", 0, api.ErrLong)
}

// P12.1: Attr.
func TestAttr(t *testing.T) {
	for _, s := range []string{"A", "Arn", "Zone", "a1", "Outputs", "outputs", "Outputs1", "Outputs.A", "Outputs.a1", "Outputs.Outputs", "Outputs.Arn", longest(), "Outputs." + longest()} {
		if !sub.Attr(s) {
			t.Errorf("%q may be an attribute", s)
		}
	}
	for _, s := range []string{
		"", " ", "1", "1A", ".", "..", "A.", ".A", "A.B", "A ", " A", "A-", "\u00e9", "A\x00", "\xff", "$", "${A}", "Outputs.", "Outputs..", "Outputs..A", ".Outputs.A", "Outputs. A", "Outputs.A ", "Outputs.1", "Outputs.A.", "Outputs.A.B", "Outputs.Outputs.", "Outputs.Outputs.A", "Outputs A", "outputs.A", "Output.A", "OutputsA.B", "Outputs.\u00e9", "Outputs.\xff", "A.Outputs.B",
		tooLong(), "Outputs." + tooLong(), strings.Repeat("A", 1000000), strings.Repeat("Outputs.", 100000) + "A",
	} {
		if sub.Attr(s) {
			t.Errorf("%.300q may be no attribute", s)
		}
	}
}
