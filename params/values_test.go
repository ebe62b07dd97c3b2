package params_test

import (
	"fmt"
	"reflect"
	"strings"
	"testing"

	"hoarding/api"
	"hoarding/tree"
)

type (
	rowOfParams = []api.Param
	givens      = []api.Given
)

// text answers a text's parameter.
func text(name string, allowed ...string) api.Param {
	p := api.Param{Name: name}
	for _, s := range allowed {
		p.Allowed = append(p.Allowed, tree.Text(s))
	}
	return p
}

// number answers a number's parameter.
func number(name string, allowed ...int) api.Param {
	p := api.Param{Name: name, Number: true}
	for _, n := range allowed {
		p.Allowed = append(p.Allowed, tree.Num(n))
	}
	return p
}

// or answers p with a default.
func or(p api.Param, v api.Value) api.Param {
	p.Has, p.Default = true, v
	return p
}

func a(s string) api.Value { return tree.Text(s) }

func n(i int) api.Value { return tree.Num(i) }

func given(name string, v api.Value) api.Given { return api.Given{Name: name, V: v} }

func unknown(name string) api.Given { return api.Given{Name: name, Unknown: true} }

func list(l ...api.Value) api.Value { return api.Value{Kind: api.List, List: l} }

// object answers an object of keys, told with blanks between, and their values.
func object(keys string, l ...api.Value) api.Value {
	return api.Value{Kind: api.Object, Keys: strings.Fields(keys), List: l}
}

// deep answers a value that so many lists are around.
func deep(levels int, v api.Value) api.Value {
	for range levels {
		v = list(v)
	}
	return v
}

// endless answers a list that holds itself twice.
func endless() api.Value {
	v := list(n(1), api.Value{}, api.Value{})
	v.List[1], v.List[2] = v, v
	return v
}

// longest answers a word of just as many bytes as may be.
func longest() string { return strings.Repeat("w", api.MaxWord) }

// words are texts' values that may be, no two equal.
func words() []api.Value {
	return []api.Value{a(""), a("a"), a("b"), a("1"), a("\x00\n\"\\"), a("\u20ac"), a(longest()), a(strings.Repeat("\u00e9", api.MaxWord/2)), {Kind: api.Text, Text: "c", List: []api.Value{}, Keys: []string{}}}
}

// numbers are numbers' values that may be, no two equal.
func numbers() []api.Value {
	return []api.Value{n(0), n(1), n(-1), n(2), n(api.MaxNumber), n(-api.MaxNumber), {Kind: api.Number, Num: 3, List: []api.Value{}, Keys: []string{}}}
}

// others are values that are no parameter's, whatever its kind.
func others() []api.Value {
	out := []api.Value{
		{}, {Kind: api.Bool}, {Kind: api.Bool, Bool: true}, list(), list(a("a")), list(n(1)), object(""), object("a", n(1)), object("b a", n(1), n(2)), {Kind: 6}, {Kind: -1}, {Kind: 127, Text: "a", Num: 1},
		a("\xff"), a("a\xc3"), a("\xed\xa0\x80"), a(longest() + "w"), a(longest()[1:] + "\u00e9"), a(strings.Repeat("w", 100000)),
		n(api.MaxNumber + 1), n(-api.MaxNumber - 1), n(-1 << 63), n(1<<63 - 1),
		{Num: 1}, {Text: "a"}, {Bool: true}, deep(api.MaxDeep, a("a")), deep(100000, n(1)), endless(),
	}
	for _, kind := range []int8{api.Text, api.Number} {
		out = append(out, api.Value{Kind: kind, Bool: true}, api.Value{Kind: kind, Keys: []string{""}}, api.Value{Kind: kind, List: []api.Value{{}}}, api.Value{Kind: kind, Keys: []string{"a"}, List: []api.Value{{}}}, api.Value{Kind: kind, List: endless().List})
	}
	return append(out, api.Value{Kind: api.Text, Num: 1}, api.Value{Kind: api.Text, Text: "a", Num: 1}, api.Value{Kind: api.Number, Text: "1"}, api.Value{Kind: api.Number, Num: 1, Text: "1"})
}

// same tells whether a and b are the same, field by field, lists of nothing and none alike.
func same(a, b any) bool { return sameField(reflect.ValueOf(a), reflect.ValueOf(b)) }

func sameField(a, b reflect.Value) bool {
	switch a.Kind() {
	case reflect.Struct:
		for i := range a.NumField() {
			if !sameField(a.Field(i), b.Field(i)) {
				return false
			}
		}
		return true
	case reflect.Slice:
		if a.Len() != b.Len() {
			return false
		}
		for i := range a.Len() {
			if !sameField(a.Index(i), b.Index(i)) {
				return false
			}
		}
		return true
	}
	return a.Interface() == b.Interface()
}

// clone answers x in other memory.
func clone[T any](x T) T { return renewed(x, 0) }

// roomy answers x in other memory, all its lists with spare room, in which something stands.
func roomy[T any](x T) T { return renewed(x, 2) }

func renewed[T any](x T, room int) T {
	v := reflect.New(reflect.TypeFor[T]()).Elem()
	v.Set(reflect.ValueOf(x))
	renew(v, room)
	return v.Interface().(T)
}

// renew puts all lists of v into other memory, with so much spare room, in which marks stand.
func renew(v reflect.Value, room int) {
	switch v.Kind() {
	case reflect.Struct:
		for i := range v.NumField() {
			renew(v.Field(i), room)
		}
	case reflect.Slice:
		l := v.Len()
		fresh := reflect.MakeSlice(v.Type(), l+room, l+room)
		reflect.Copy(fresh, v)
		for i := range l + room {
			if i < l {
				renew(fresh.Index(i), room)
			} else {
				mark(fresh.Index(i))
			}
		}
		v.Set(fresh.Slice(0, l))
	}
}

// mark writes over v, which has no lists then.
func mark(v reflect.Value) {
	switch v.Kind() {
	case reflect.Struct:
		for i := range v.NumField() {
			mark(v.Field(i))
		}
	case reflect.Slice:
		v.SetZero()
	case reflect.String:
		v.SetString("spoilt")
	case reflect.Bool:
		v.SetBool(true)
	default:
		v.SetInt(77)
	}
}

// lists calls deal with every list in v, from inside out, with its spare room.
func lists(v reflect.Value, deal func(reflect.Value)) {
	switch v.Kind() {
	case reflect.Struct:
		for i := range v.NumField() {
			lists(v.Field(i), deal)
		}
	case reflect.Slice:
		for i := range v.Len() {
			lists(v.Index(i), deal)
		}
		deal(v.Slice(0, v.Cap()))
	}
}

// spoil writes over all that the lists in x hold, and what stands behind it.
func spoil(x any) {
	lists(reflect.ValueOf(x), func(l reflect.Value) {
		for i := range l.Len() {
			mark(l.Index(i))
		}
	})
}

// brief tells x in few signs, though it had no end.
func brief(x any) string {
	var b strings.Builder
	var tell func(v reflect.Value)
	tell = func(v reflect.Value) {
		switch {
		case b.Len() > 300:
		case v.Kind() == reflect.Struct:
			b.WriteString("{")
			for _, field := range v.Fields() {
				tell(field)
			}
			b.WriteString("} ")
		case v.Kind() == reflect.Slice:
			b.WriteString("[")
			for i := 0; i < v.Len() && b.Len() <= 300; i++ {
				tell(v.Index(i))
			}
			b.WriteString("] ")
		case v.Kind() == reflect.String:
			fmt.Fprintf(&b, "%.80q ", v.String())
		default:
			fmt.Fprintf(&b, "%v ", v.Interface())
		}
	}
	tell(reflect.ValueOf(x))
	return b.String()
}

// TestHelpers holds these helpers to what they say.
func TestHelpers(t *testing.T) {
	x := rowOfParams{or(text("P", "a", "b"), a("a")), number("Q")}
	y, z := clone(x), roomy(x)
	if !same(x, y) || same(x, x[:1]) || same(x, rowOfParams{x[0], number("R")}) || same(x, rowOfParams{or(text("P", "a", "c"), a("a")), number("Q")}) || !same(list(), api.Value{Kind: api.List, List: []api.Value{}}) {
		t.Error("same, clone")
	}
	if !same(x, z) || cap(z) != 4 || z[:3][2].Name != "spoilt" || cap(z[0].Allowed) != 4 || z[0].Allowed[:3][2].Text != "spoilt" {
		t.Error("roomy")
	}
	if s := brief(given("A", endless())); len(s) > 1000 || !strings.HasPrefix(s, `{"A" false {4 false 0 "" [{2 false 1`) {
		t.Error(s)
	}
	allowed := y[0].Allowed
	if spoil(y); y[0].Name != "spoilt" || allowed[1].Text != "spoilt" || x[0].Name != "P" || x[0].Allowed[1].Text != "b" {
		t.Error("spoil")
	}
}
