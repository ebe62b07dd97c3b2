package copies_test

import (
	"reflect"
	"slices"
	"testing"

	"hoarding/api"
	"hoarding/copies"
	"hoarding/tree"
)

func list(l ...api.Value) api.Value { return api.Value{Kind: api.List, List: l} }

// samples are values that may be, and such as may not.
func samples() []api.Value {
	object := api.Value{Kind: api.Object, Keys: []string{"b", "a"}, List: []api.Value{tree.Num(1), list(tree.Text("x"))}}
	return []api.Value{
		{}, tree.Num(7), tree.Text("a"), list(), list(tree.Num(1), list(), list(list(tree.Text("b")))), object, list(object, object),
		{Kind: 9, Bool: true, Num: 1, Text: "\xff", Keys: []string{"k"}, List: []api.Value{object, {Kind: -1}}},
	}
}

// roomy answers v in other memory, each of its lists with room behind it.
func roomy(v api.Value) api.Value {
	v.Keys = append(slices.Clone(v.Keys), "room", "room")[:len(v.Keys)]
	v.List = append(slices.Clone(v.List), tree.Text("room"), tree.Text("room"))[:len(v.List)]
	for i, part := range v.List {
		v.List[i] = roomy(part)
	}
	return v
}

// spoil changes all that v's lists hold, and what stands behind them.
func spoil(v api.Value) {
	for _, part := range v.List {
		spoil(part)
	}
	l, keys := v.List[:cap(v.List)], v.Keys[:cap(v.Keys)]
	for i := range l {
		l[i] = tree.Text("spoilt")
	}
	for i := range keys {
		keys[i] = "spoilt"
	}
}

// R4: a copy is the same, and neither is changed by what is done to the other.
func TestValue(t *testing.T) {
	for _, want := range samples() {
		v := roomy(want)
		one, two := copies.Value(v), copies.Value(v)
		spoil(one)
		if again := copies.Value(v); !same(again, want) || !same(v, want) || !same(two, want) {
			t.Errorf("%v: %v, %v", want, v, again)
		}
		spoil(v)
		if !same(two, want) {
			t.Errorf("%v: %v", want, two)
		}
	}
}

// R4: a list that stands at two places is two lists in a copy.
func TestValueApart(t *testing.T) {
	twice := list(tree.Num(1))
	v := copies.Value(list(twice, twice))
	v.List[0].List[0] = tree.Num(2)
	if !same(v, list(list(tree.Num(2)), list(tree.Num(1)))) || !same(twice, list(tree.Num(1))) {
		t.Error(v, twice)
	}
}

// R4: the same of rows of properties.
func TestGivens(t *testing.T) {
	if l := copies.Givens(nil); len(l) != 0 {
		t.Error(l)
	}
	l := make([]api.Given, 0, 20)
	for i, v := range samples() {
		l = append(l, api.Given{Name: string(rune('a' + i)), Unknown: i%2 == 0, V: v})
	}
	one, two := copies.Givens(l), copies.Givens(l)
	for i, g := range one {
		if !same(g, l[i]) {
			t.Errorf("%v, not %v", g, l[i])
		}
		spoil(g.V)
	}
	for i := range one[:cap(one)] {
		one[:cap(one)][i] = api.Given{Name: "spoilt"}
	}
	for i, v := range samples() {
		if want := (api.Given{Name: string(rune('a' + i)), Unknown: i%2 == 0, V: v}); !same(l[i], want) || !same(two[i], want) {
			t.Errorf("%v, %v, not %v", l[i], two[i], want)
		}
	}
	if room := l[:cap(l)]; !same(room[len(l)], api.Given{}) {
		t.Error(room[len(l)])
	}
}

// R1: copying ends, however deep or long a value is, and where it holds itself.
func TestGreat(t *testing.T) {
	deep := list()
	for range 1_200_000 {
		deep = list(deep)
	}
	endless := list(tree.Num(1), api.Value{}, api.Value{})
	endless.List[1], endless.List[2] = endless, endless
	for _, v := range []api.Value{deep, endless, list(make([]api.Value, 1_200_000)...)} {
		if got := copies.Value(v); len(got.List) != len(v.List) || &got.List[0] == &v.List[0] {
			t.Error("no copy")
		}
		if got := copies.Givens([]api.Given{{Name: "a", V: v}}); len(got) != 1 || len(got[0].V.List) != len(v.List) {
			t.Error("no copies")
		}
	}
}

// same tells whether a and b are the same, field by field, lists of nothing and none alike.
func same(a, b any) bool { return sameField(reflect.ValueOf(a), reflect.ValueOf(b)) }

func sameField(a, b reflect.Value) bool {
	switch a.Kind() {
	case reflect.Struct:
		for i := range a.NumField() {
			if !sameField(a.Field(i), b.Field(i)) {
				return false
			}
		}
		return true
	case reflect.Slice:
		if a.Len() != b.Len() {
			return false
		}
		for i := range a.Len() {
			if !sameField(a.Index(i), b.Index(i)) {
				return false
			}
		}
		return true
	}
	return a.Interface() == b.Interface()
}
