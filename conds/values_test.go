package conds_test

import (
	"fmt"
	"reflect"
	"strings"
	"testing"

	"hoarding/api"
)

type (
	row    = []api.Cond
	exprs  = []api.Expr
	givens = []api.Given
	names  = []string
)

func text(s string) api.Expr { return api.Expr{Kind: api.ExText, Text: s} }

func num(n int) api.Expr { return api.Expr{Kind: api.ExNumber, Num: n} }

func ref(name string) api.Expr { return api.Expr{Kind: api.ExRef, Name: name} }

func equals(a, b api.Expr) api.Cond { return api.Cond{Kind: api.CoEquals, A: a, B: b} }

func and(l ...api.Cond) api.Cond { return api.Cond{Kind: api.CoAnd, L: l} }

func or(l ...api.Cond) api.Cond { return api.Cond{Kind: api.CoOr, L: l} }

func not(l ...api.Cond) api.Cond { return api.Cond{Kind: api.CoNot, L: l} }

// cond answers a part that is the condition of that name.
func cond(name string) api.Cond { return api.Cond{Kind: api.CoName, Name: name} }

// yes answers a part that holds, no one that does not.
func yes() api.Cond { return equals(text("a"), text("a")) }

func no() api.Cond { return equals(text("a"), text("b")) }

// is answers the definition of a condition.
func is(name string, c api.Cond) api.Cond {
	c.Name = name
	return c
}

// naming answers a definition that names these conditions, one in another where there are more than may be.
func naming(name string, l ...string) api.Cond {
	if len(l) == 0 {
		return is(name, yes())
	}
	var c api.Cond
	for i := len(l) - 1; i >= 0; i-- {
		c.Kind, c.L = api.CoOr, append(row{cond(l[i])}, c.L...)
		if len(c.L) == 4 && i > 0 {
			c.L = row{c}
		}
	}
	return is(name, c)
}

// graph answers definitions from words such as A:BC, which is A, that names B and C; one that names * is a CoName.
func graph(words string) (l row) {
	for _, word := range strings.Fields(words) {
		name, to, _ := strings.Cut(word, ":")
		if to == "*" {
			l = append(l, cond(name))
		} else {
			l = append(l, naming(name, strings.Split(to, "")...))
		}
	}
	return l
}

// alphabet answers so many definitions that hold.
func alphabet(many int) (l row) {
	for i := range many {
		l = append(l, is(string(rune('A'+i)), yes()))
	}
	return l
}

// deep answers a condition that is so deep, c at its bottom.
func deep(levels int, c api.Cond) api.Cond {
	for range levels - 1 {
		c = not(c)
	}
	return c
}

// endless answers a condition whose parts are itself, one and the other.
func endless() api.Cond {
	c := and(yes(), api.Cond{}, api.Cond{}, cond("E"))
	c.L[1], c.L[2] = c, c
	return c
}

func given(name string, v api.Value) api.Given { return api.Given{Name: name, V: v} }

func unknown(name string) api.Given { return api.Given{Name: name, Unknown: true} }

// longName is a name of n bytes.
func longName(n int) string { return "N" + strings.Repeat("7", n-1) }

// noNames are texts that are no names.
func noNames() names {
	return names{"", "9", "9A", "A_", "A B", " A", "A.B", "\u00e9", "\xff", "A\x00", longName(api.MaxName + 1)}
}

// oddExprs are x with something in one field more, field by field.
func oddExprs(x api.Expr) (l exprs) {
	for i := range 6 {
		y := x
		switch i {
		case 0:
			y.Text += "a"
		case 1:
			y.Num++
		case 2:
			y.Name += "P"
		case 3:
			y.Attr = "Arn"
		case 4:
			y.L = exprs{{}}
		case 5:
			y.L = exprs{text("a"), ref("P")}
		}
		l = append(l, y)
	}
	return l
}

// same tells whether a and b are the same, field by field, lists of nothing and none alike.
func same(a, b any) bool { return sameField(reflect.ValueOf(a), reflect.ValueOf(b)) }

func sameField(a, b reflect.Value) bool {
	switch a.Kind() {
	case reflect.Struct:
		for i := range a.NumField() {
			if !sameField(a.Field(i), b.Field(i)) {
				return false
			}
		}
		return true
	case reflect.Slice:
		if a.Len() != b.Len() {
			return false
		}
		for i := range a.Len() {
			if !sameField(a.Index(i), b.Index(i)) {
				return false
			}
		}
		return true
	}
	return a.Interface() == b.Interface()
}

// clone answers x in other memory.
func clone[T any](x T) T { return renewed(x, 0) }

// roomy answers x in other memory, all its lists with spare room, in which something stands.
func roomy[T any](x T) T { return renewed(x, 2) }

func renewed[T any](x T, room int) T {
	v := reflect.New(reflect.TypeFor[T]()).Elem()
	v.Set(reflect.ValueOf(x))
	renew(v, room)
	return v.Interface().(T)
}

// renew puts all lists of v into other memory, with so much spare room, in which marks stand.
func renew(v reflect.Value, room int) {
	switch v.Kind() {
	case reflect.Struct:
		for i := range v.NumField() {
			renew(v.Field(i), room)
		}
	case reflect.Slice:
		l := v.Len()
		fresh := reflect.MakeSlice(v.Type(), l+room, l+room)
		reflect.Copy(fresh, v)
		for i := range l + room {
			if i < l {
				renew(fresh.Index(i), room)
			} else {
				mark(fresh.Index(i))
			}
		}
		v.Set(fresh.Slice(0, l))
	}
}

// mark writes over v, which has no lists then.
func mark(v reflect.Value) {
	switch v.Kind() {
	case reflect.Struct:
		for i := range v.NumField() {
			mark(v.Field(i))
		}
	case reflect.Slice:
		v.SetZero()
	case reflect.String:
		v.SetString("spoilt")
	case reflect.Bool:
		v.SetBool(true)
	default:
		v.SetInt(77)
	}
}

// lists calls deal with every list in v, from inside out, with its spare room.
func lists(v reflect.Value, deal func(reflect.Value)) {
	switch v.Kind() {
	case reflect.Struct:
		for i := range v.NumField() {
			lists(v.Field(i), deal)
		}
	case reflect.Slice:
		for i := range v.Len() {
			lists(v.Index(i), deal)
		}
		deal(v.Slice(0, v.Cap()))
	}
}

// spoil writes over all that the lists in x hold, and what stands behind it.
func spoil(x any) {
	lists(reflect.ValueOf(x), func(l reflect.Value) {
		for i := range l.Len() {
			mark(l.Index(i))
		}
	})
}

// brief tells x in few signs, though it had no end.
func brief(x any) string {
	var b strings.Builder
	var tell func(v reflect.Value)
	tell = func(v reflect.Value) {
		switch {
		case b.Len() > 300:
		case v.Kind() == reflect.Struct:
			b.WriteString("{")
			for _, field := range v.Fields() {
				tell(field)
			}
			b.WriteString("} ")
		case v.Kind() == reflect.Slice:
			b.WriteString("[")
			for i := 0; i < v.Len() && b.Len() <= 300; i++ {
				tell(v.Index(i))
			}
			b.WriteString("] ")
		case v.Kind() == reflect.String:
			fmt.Fprintf(&b, "%.80q ", v.String())
		default:
			fmt.Fprintf(&b, "%v ", v.Interface())
		}
	}
	tell(reflect.ValueOf(x))
	return b.String()
}

// TestHelpers holds these helpers to what they say.
func TestHelpers(t *testing.T) {
	x := row{is("A", or(equals(text("a"), ref("P")), cond("B"))), is("B", not(yes()))}
	y, z := clone(x), roomy(x)
	if !same(x, y) || same(x, x[:1]) || same(x, row{x[0], is("B", not(no()))}) || !same(and(), api.Cond{Kind: api.CoAnd, L: row{}}) {
		t.Error("same, clone")
	}
	if !same(x, z) || cap(z) != 4 || z[:3][2].Name != "spoilt" || cap(z[0].L) != 4 || z[0].L[:3][2].Name != "spoilt" {
		t.Error("roomy")
	}
	if s := brief(endless()); len(s) > 1000 {
		t.Error(s)
	}
	parts := y[0].L
	if spoil(y); y[0].Name != "spoilt" || parts[1].Name != "spoilt" || x[0].Name != "A" || x[0].L[1].Name != "B" {
		t.Error("spoil")
	}
	if got := graph("A:BC B: C:* D:ABCDEF"); !same(got, row{is("A", or(cond("B"), cond("C"))), is("B", yes()), cond("C"), is("D", or(cond("A"), cond("B"), or(cond("C"), cond("D"), cond("E"), cond("F"))))}) {
		t.Error(brief(got))
	}
	if c := deep(3, cond("A")); !same(c, not(not(cond("A")))) || !same(deep(1, yes()), yes()) {
		t.Error(brief(c))
	}
}
