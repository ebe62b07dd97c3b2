package syntax_test

import (
	"fmt"
	"reflect"
	"strings"
	"testing"

	"hoarding/api"
	"hoarding/parse"
	"hoarding/syntax"
)

// value answers the value whose text s is, in which 'x' stands for "x".
func value(s string) api.Value {
	s = strings.ReplaceAll(s, "'", "\"")
	v, end, e := parse.Value(s, 0, -1000)
	if e != api.OK || end != len(s) {
		panic(fmt.Sprintf("%s: %d at %d", s, e, end))
	}
	return v
}

// many answers the text of n times s, with commas between; # in s is the number, from 0 on.
func many(n int, s string) string {
	var l []string
	for i := range n {
		l = append(l, strings.ReplaceAll(s, "#", fmt.Sprint(i)))
	}
	return strings.Join(l, ",")
}

// longName is a name of n bytes.
func longName(n int) string { return "N" + strings.Repeat("7", n-1) }

// longest is the longest name that may be, tooLong one byte more.
func longest() string { return longName(api.MaxName) }

func tooLong() string { return longName(api.MaxName + 1) }

type exprs = []api.Expr

func text(s string) api.Expr { return api.Expr{Kind: api.ExText, Text: s} }

func num(n int) api.Expr { return api.Expr{Kind: api.ExNumber, Num: n} }

func list(l ...api.Expr) api.Expr { return api.Expr{Kind: api.ExList, L: l} }

func ref(name string) api.Expr { return api.Expr{Kind: api.ExRef, Name: name} }

func att(name, attr string) api.Expr { return api.Expr{Kind: api.ExAtt, Name: name, Attr: attr} }

func sub(l ...api.Expr) api.Expr { return api.Expr{Kind: api.ExSub, L: l} }

func when(name string, l ...api.Expr) api.Expr { return api.Expr{Kind: api.ExIf, Name: name, L: l} }

func join(by string, l ...api.Expr) api.Expr { return api.Expr{Kind: api.ExJoin, Text: by, L: l} }

func choose(l ...api.Expr) api.Expr { return api.Expr{Kind: api.ExSelect, L: l} }

func equals(a, b api.Expr) api.Cond { return api.Cond{Kind: api.CoEquals, A: a, B: b} }

// conds answers a condition of others.
func conds(kind int8, l ...api.Cond) api.Cond { return api.Cond{Kind: kind, L: l} }

func named(name string, c api.Cond) api.Cond {
	c.Name = name
	return c
}

func cond(name string) api.Cond { return api.Cond{Kind: api.CoName, Name: name} }

// same tells whether a and b, of one type, are the same, field by field (nil and empty lists alike).
func same(a, b any) bool { return sameValue(reflect.ValueOf(a), reflect.ValueOf(b)) }

func sameValue(a, b reflect.Value) bool {
	switch a.Kind() {
	case reflect.Struct:
		for i := range a.NumField() {
			if !sameValue(a.Field(i), b.Field(i)) {
				return false
			}
		}
		return true
	case reflect.Slice:
		if a.Len() != b.Len() {
			return false
		}
		for i := range a.Len() {
			if !sameValue(a.Index(i), b.Index(i)) {
				return false
			}
		}
		return true
	}
	return a.Interface() == b.Interface()
}

// clone answers x in other memory, all its lists without spare room.
func clone[T any](x T) T {
	v := reflect.New(reflect.TypeFor[T]()).Elem()
	v.Set(reflect.ValueOf(x))
	renew(v, 0)
	return v.Interface().(T)
}

// roomy answers x in other memory, all its lists with spare room, in which something stands.
func roomy[T any](x T) T {
	v := reflect.New(reflect.TypeFor[T]()).Elem()
	v.Set(reflect.ValueOf(x))
	renew(v, 2)
	return v.Interface().(T)
}

// renew puts all lists of v into other memory, with so much spare room, in which marks stand.
func renew(v reflect.Value, room int) {
	switch v.Kind() {
	case reflect.Struct:
		for i := range v.NumField() {
			renew(v.Field(i), room)
		}
	case reflect.Slice:
		n := v.Len()
		fresh := reflect.MakeSlice(v.Type(), n+room, n+room)
		reflect.Copy(fresh, v)
		for i := range n + room {
			if i < n {
				renew(fresh.Index(i), room)
			} else {
				mark(fresh.Index(i))
			}
		}
		v.Set(fresh.Slice(0, n))
	}
}

// mark writes over v, which has no lists then.
func mark(v reflect.Value) {
	switch v.Kind() {
	case reflect.Struct:
		for i := range v.NumField() {
			mark(v.Field(i))
		}
	case reflect.Slice:
		v.SetZero()
	case reflect.String:
		v.SetString("spoilt")
	case reflect.Bool:
		v.SetBool(true)
	default:
		v.SetInt(77)
	}
}

// lists calls deal with every list in v, from inside out, with its spare room.
func lists(v reflect.Value, deal func(reflect.Value)) {
	switch v.Kind() {
	case reflect.Struct:
		for i := range v.NumField() {
			lists(v.Field(i), deal)
		}
	case reflect.Slice:
		for i := range v.Len() {
			lists(v.Index(i), deal)
		}
		deal(v.Slice(0, v.Cap()))
	}
}

// reads wants v to be the template, for Read.
func reads(t *testing.T, s string, want api.Template) {
	t.Helper()
	if got, at, e := syntax.Read(value(s)); !same(got, want) || at != "" || e != api.OK {
		t.Errorf("Read(%.300s): %+v, %q, %d; not %+v", s, got, at, e, want)
	}
}

// refuses wants s to be refused by Read.
func refuses(t *testing.T, s, at string, e api.Errno) {
	t.Helper()
	if got, place, told := syntax.Read(value(s)); !same(got, api.Template{}) || place != at || told != e {
		t.Errorf("Read(%.300s): %+v, %q, %d; not %q, %d", s, got, place, told, at, e)
	}
}

// isExpr wants s to be the expression, for Expr.
func isExpr(t *testing.T, s string, want api.Expr) {
	t.Helper()
	if got, at, e := syntax.Expr(value(s)); !same(got, want) || at != "" || e != api.OK {
		t.Errorf("Expr(%.300s): %+v, %q, %d; not %+v", s, got, at, e, want)
	}
}

// noExpr wants s to be refused by Expr.
func noExpr(t *testing.T, s, at string, e api.Errno) {
	t.Helper()
	if got, place, told := syntax.Expr(value(s)); !same(got, api.Expr{}) || place != at || told != e {
		t.Errorf("Expr(%.300s): %+v, %q, %d; not %q, %d", s, got, place, told, at, e)
	}
}

// TestHelpers holds these helpers to what they say.
func TestHelpers(t *testing.T) {
	x := when("A", list(text("a"), num(1)), ref("B"))
	y := clone(x)
	if !same(x, y) || same(x, when("A", list(text("a"), num(2)), ref("B"))) || same(x, when("A", list(text("a")), ref("B"))) || !same(list(), api.Expr{Kind: api.ExList, L: exprs{}}) {
		t.Error("same, clone")
	}
	z := roomy(x)
	if !same(x, z) || cap(z.L) != 4 || z.L[:3][2].Text != "spoilt" || cap(z.L[0].L) != 4 {
		t.Error("roomy")
	}
	n := 0
	lists(reflect.ValueOf(y), func(l reflect.Value) {
		if l.Len() > 0 {
			n++
			l.Index(0).Field(1).SetString("b")
		}
	})
	if n != 2 || x.L[0].L[0].Text != "a" || y.L[0].L[0].Text != "b" {
		t.Error("lists", n, x, y)
	}
	if s := many(3, "'A#'"); s != "'A0','A1','A2'" || !same(value("["+s+"]"), value(`["A0","A1","A2"]`)) {
		t.Error("many")
	}
}

// decimal answers n's digits.
func decimal(n int) string { return fmt.Sprint(n) }
