package sub_test

import (
	"slices"
	"strings"
	"testing"

	"hoarding/api"
	"hoarding/sub"
)

type exprs = []api.Expr

func text(s string) api.Expr { return api.Expr{Kind: api.ExText, Text: s} }

func ref(name string) api.Expr { return api.Expr{Kind: api.ExRef, Name: name} }

func att(name, attr string) api.Expr { return api.Expr{Kind: api.ExAtt, Name: name, Attr: attr} }

// same tells whether a and b are the same, field by field (nil and empty lists alike).
func same(a, b api.Expr) bool {
	return a.Kind == b.Kind && a.Text == b.Text && a.Num == b.Num && a.Name == b.Name && a.Attr == b.Attr && slices.EqualFunc(a.L, b.L, same)
}

// lexes wants s to be the text of these parts, for Lex and for Holes.
func lexes(t *testing.T, s string, want ...api.Expr) {
	t.Helper()
	if got, at, e := sub.Lex(s); !slices.EqualFunc(got, want, same) || at != 0 || e != api.OK {
		t.Errorf("Lex(%.300q): %v, %d, %d", s, got, at, e)
	}
	holes := 0
	for _, x := range want {
		if x.Kind == api.ExRef || x.Kind == api.ExAtt {
			holes++
		}
	}
	if got := sub.Holes(s); got != holes {
		t.Errorf("Holes(%.300q): %d, not %d", s, got, holes)
	}
}

// refuses wants s to be refused, by Lex and by Holes.
func refuses(t *testing.T, s string, at int, e api.Errno) {
	t.Helper()
	if got, place, told := sub.Lex(s); len(got) != 0 || place != at || told != e {
		t.Errorf("Lex(%.300q): %v, %d, %d; not %d, %d", s, got, place, told, at, e)
	}
	if got := sub.Holes(s); got != 0 {
		t.Errorf("Holes(%.300q): %d", s, got)
	}
}

// writes wants the parts to be those of s.
func writes(t *testing.T, s string, parts ...api.Expr) {
	t.Helper()
	if got, e := sub.Write(parts); got != s || e != api.OK {
		t.Errorf("Write(%v): %.300q, %d; not %.300q", parts, got, e, s)
	}
}

// writesNone wants Write to refuse the parts.
func writesNone(t *testing.T, e api.Errno, parts ...api.Expr) {
	t.Helper()
	if got, told := sub.Write(parts); got != "" || told != e {
		t.Errorf("Write(%v): %.300q, %d; not %d", parts, got, told, e)
	}
}

// longName is a name of n bytes.
func longName(n int) string { return "N" + strings.Repeat("7", n-1) }

// longest is the longest name that may be, tooLong one byte more.
func longest() string { return longName(api.MaxName) }

func tooLong() string { return longName(api.MaxName + 1) }
