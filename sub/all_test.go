package sub_test

import (
	"regexp"
	"slices"
	"strings"
	"testing"

	"hoarding/api"
	"hoarding/sub"
)

// A second reading of the chapter: what stands behind ${! up to a }, a hole with its names, or a ${ that is neither.
const name = `[A-Za-z][0-9A-Za-z]{0,31}`

var holes = regexp.MustCompile(`\$\{!([^}]*\})|\$\{(` + name + `)(\.((?:Outputs\.)?` + name + `))?\}|\$\{`)

// told answers what that reading tells of s, which is a text and not too long.
func told(s string) (parts exprs, at int, e api.Errno) {
	var plain strings.Builder
	end := func() {
		if plain.Len() > 0 {
			parts = append(parts, text(plain.String()))
			plain.Reset()
		}
	}
	from := 0
	for _, m := range holes.FindAllStringSubmatchIndex(s, -1) {
		plain.WriteString(s[from:m[0]])
		from = m[1]
		switch {
		case m[2] >= 0:
			plain.WriteString("${" + s[m[2]:m[3]])
		case m[4] < 0:
			return nil, m[0], api.ErrSub
		case m[6] < 0:
			end()
			parts = append(parts, ref(s[m[4]:m[5]]))
		default:
			end()
			parts = append(parts, att(s[m[4]:m[5]], s[m[8]:m[9]]))
		}
	}
	plain.WriteString(s[from:])
	end()
	return parts, 0, api.OK
}

// holds holds what is told of s against the second reading. What Lex takes Write writes again, as it was.
func holds(t *testing.T, s string) bool {
	t.Helper()
	want, place, e := told(s)
	if e != api.OK {
		refuses(t, s, place, e)
		return false
	}
	lexes(t, s, want...)
	writes(t, s, want...)
	return true
}

// chains calls deal with every chain of up to n of the pieces.
func chains(pieces []string, n int, deal func(string)) {
	var grow func(s string, n int)
	grow = func(s string, n int) {
		deal(s)
		if n == 0 {
			return
		}
		for _, p := range pieces {
			grow(s+p, n-1)
		}
	}
	grow("", n)
}

// P12.1, P12.2: all texts of a few signs, and of a few pieces.
func TestAllTexts(t *testing.T) {
	taken, refused := 0, 0
	count := func(s string) {
		if t.Failed() {
			return
		}
		if holds(t, s) {
			taken++
		} else {
			refused++
		}
	}
	chains([]string{"$", "{", "}", "!", "A", ".", "1"}, 6, count)
	chains([]string{"$", "${", "}", "!", "A", ".", "Outputs", "\u20ac"}, 5, count)
	chains([]string{"${A}", "${A.B}", "${A.Outputs.B}", "${!", "${!x}", "${", "}", "$", "x"}, 5, count)
	if taken < 50000 || refused < 50000 {
		t.Errorf("only %d taken, %d refused", taken, refused)
	}
}

// P12.1: texts that break off, or in which one byte is another one, or missing, or one too many.
func TestChanged(t *testing.T) {
	for _, s := range []string{"a-${B}-${C.Arn}", "$${N.Outputs.X}${!a${b}c}}${D1}$", "${!x}${!!y}${A}${" + longest() + "}x", "{${Outputs.Outputs.Outputs}!${!}$$"} {
		if !holds(t, s) {
			t.Errorf("%q is none", s)
		}
		for i := range len(s) + 1 {
			holds(t, s[:i])
			holds(t, s[i:])
			for _, sign := range []string{"$", "{", "}", "!", ".", "A", "1", " ", "${", "\u20ac"} {
				holds(t, s[:i]+sign+s[i:])
				if i < len(s) {
					holds(t, s[:i]+sign+s[i+1:])
				}
			}
			if i < len(s) {
				holds(t, s[:i]+s[i+1:])
			}
		}
	}
}

// pairs finds each ${ of a text with all up to the next }.
var pairs = regexp.MustCompile(`\$\{([^}]*\})`)

// written answers what Write is to tell of parts each of which may be, by a second reading.
func written(parts exprs) (string, api.Errno) {
	var b strings.Builder
	for i, x := range parts {
		switch {
		case x.Kind == api.ExRef:
			b.WriteString("${" + x.Name + "}")
		case x.Kind == api.ExAtt:
			b.WriteString("${" + x.Name + "." + x.Attr + "}")
		case i > 0 && parts[i-1].Kind == api.ExText:
			return "", api.ErrArg
		}
		if x.Kind == api.ExText {
			b.WriteString(pairs.ReplaceAllString(x.Text, "$${!$1"))
		}
	}
	for _, x := range parts {
		if open := strings.LastIndex(x.Text, "${"); open >= 0 && !strings.Contains(x.Text[open:], "}") {
			return "", api.ErrSub
		}
	}
	return b.String(), api.OK
}

// P12.2, P12.3: all rows of a few parts; Lex of what is written are the parts again.
func TestAllParts(t *testing.T) {
	var some exprs
	chains([]string{"$", "{", "}", "!", "a"}, 4, func(s string) {
		if s != "" {
			some = append(some, text(s))
		}
	})
	for _, x := range some {
		again(t, x)
		again(t, ref("A"), x, ref("B"))
		for _, y := range some[:150] {
			again(t, x, att("A", "B"), y)
		}
	}
	few := exprs{text("$"), text("{A}"), text("${A}"), text("${!A}"), text("a$"), text("}"), text("${"), ref("A"), ref("B1"), att("A", "Arn"), att("A", "Outputs.B")}
	var grow func(parts exprs, n int)
	grow = func(parts exprs, n int) {
		again(t, parts...)
		if n == 0 {
			return
		}
		for _, x := range few {
			grow(append(slices.Clip(parts), x), n-1)
		}
	}
	grow(nil, 4)
}

// again holds what Write tells of the parts against the second reading, and Lex of it against the parts.
func again(t *testing.T, parts ...api.Expr) {
	t.Helper()
	if t.Failed() {
		return
	}
	s, e := written(parts)
	if e != api.OK {
		writesNone(t, e, parts...)
		return
	}
	writes(t, s, parts...)
	lexes(t, s, parts...)
}

// P12.3: parts of all kinds that are as long as may be, in one text of just MaxText bytes.
func TestLongAgain(t *testing.T) {
	parts := exprs{att(longest(), "Outputs."+longest()), text("${x}\u20ac"), ref(longest())}
	s, e := sub.Write(parts)
	if e != api.OK {
		t.Fatal(e)
	}
	last := strings.Repeat("}", api.MaxText-len(s))
	again(t, append(parts, text(last))...)
	s, e = sub.Write(append(parts, text(last+"}")))
	if len(s) != api.MaxText+1 || e != api.OK {
		t.Errorf("%d bytes, %d", len(s), e)
	}
	refuses(t, s, 0, api.ErrLong)
}
