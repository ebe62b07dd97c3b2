package tree_test

import (
	"math"
	"slices"
	"testing"

	"hoarding/api"
	"hoarding/tree"
)

// turned answers v with its objects' entries the other way about, at every depth.
func turned(v api.Value) api.Value {
	v = clone(v)
	for i, part := range v.List {
		v.List[i] = turned(part)
	}
	if v.Kind == api.Object {
		slices.Reverse(v.List)
		slices.Reverse(v.Keys)
	}
	return v
}

// rising tells whether the keys of v's objects rise, at every depth.
func rising(v api.Value) bool {
	for i, part := range v.List {
		if !rising(part) || v.Kind == api.Object && i > 0 && v.Keys[i-1] >= v.Keys[i] {
			return false
		}
	}
	return true
}

// P3.2: each value against each, as they stand in the order.
func TestOrder(t *testing.T) {
	vs := ordered()
	for i, a := range vs {
		for j, b := range vs {
			for _, c := range []api.Value{b, turned(b), tree.Sorted(b)} {
				if got := tree.Equal(a, c); got != (i == j) {
					t.Errorf("Equal(%v, %v): %v", a, c, got)
				}
				if got := tree.Less(a, c); got != (i < j) {
					t.Errorf("Less(%v, %v): %v", a, c, got)
				}
			}
		}
	}
}

// P3.2: what counts for nothing, and what does not.
func TestEqual(t *testing.T) {
	equals := [][2]api.Value{
		{object("a b", tree.Num(1), tree.Num(2)), object("b a", tree.Num(2), tree.Num(1))},
		{list(), {Kind: api.List, List: []api.Value{}, Keys: []string{}}},
		{object(""), {Kind: api.Object}},
		{null, {List: []api.Value{}}},
		{
			object("a b c", list(object("x y", yes, null)), object("p q r", null, no, yes), null),
			object("c b a", null, object("r p q", yes, null, no), list(object("y x", null, yes))),
		},
		{chainOf(api.MaxDeep, object(""), object("a")), chainOf(api.MaxDeep, api.Value{Kind: api.Object}, object("a"))},
		// Above a limit, but such as may be.
		{many(api.MaxText + 1), many(api.MaxText + 1)},
	}
	for i, c := range equals {
		if !tree.Equal(c[0], c[1]) || !tree.Equal(c[1], c[0]) || tree.Less(c[0], c[1]) || tree.Less(c[1], c[0]) {
			t.Errorf("%d: these are equal", i)
		}
	}
	others := [][2]api.Value{
		{object("a b", tree.Num(1), tree.Num(2)), object("a b", tree.Num(2), tree.Num(1))},
		{object("a b", null, null), object("a c", null, null)},
		{object("a", null), object("a b", null, null)},
		{list(null, yes), list(yes, null)},
		{list(), object("")},
		{null, list()},
		{null, no},
		{tree.Num(0), no},
		{tree.Num(0), tree.Text("0")},
		{tree.Num(0), null},
		{tree.Text(""), null},
		{tree.Text("\u00e9"), tree.Text("e\u0301")},
		{many(api.MaxText + 1), many(api.MaxText + 2)},
	}
	for i, c := range others {
		if tree.Equal(c[0], c[1]) || tree.Equal(c[1], c[0]) || tree.Less(c[0], c[1]) == tree.Less(c[1], c[0]) {
			t.Errorf("%d: these are not equal", i)
		}
	}
}

// P3.2: values that may not be are neither equal nor less, whichever side they stand on.
func TestOrderWrong(t *testing.T) {
	for name, c := range wrongs() {
		for _, other := range []api.Value{c.v, clone(c.v), null, object("z", yes), {Kind: 9}} {
			for _, inner := range []func(api.Value) api.Value{
				func(v api.Value) api.Value { return v },
				func(v api.Value) api.Value { return list(null, v) },
				func(v api.Value) api.Value { return object("a", v) },
			} {
				a, b := inner(c.v), inner(other)
				if tree.Equal(a, b) || tree.Equal(b, a) || tree.Less(a, b) || tree.Less(b, a) {
					t.Errorf("%s, against %v", name, other)
				}
			}
		}
	}
	if v := endless(); tree.Equal(v, v) || tree.Less(v, v) || tree.Less(null, v) || tree.Less(v, null) {
		t.Error("a list that holds itself")
	}
}

// P3.2: Sorted at every depth.
func TestSorted(t *testing.T) {
	v := object("c a b", object("z y x", tree.Num(1), tree.Num(2), tree.Num(3)), list(tree.Num(9), object("q p", yes, no), tree.Num(8)), null)
	want := object("a b c", list(tree.Num(9), object("p q", no, yes), tree.Num(8)), null, object("x y z", tree.Num(3), tree.Num(2), tree.Num(1)))
	if got := tree.Sorted(v); !same(got, want) {
		t.Errorf("%v", got)
	}
	bytewise := object("\U00010000 \uffff \u00e9 b a aa Z 9 10", tree.Num(1), tree.Num(2), tree.Num(3), tree.Num(4), tree.Num(5), tree.Num(6), tree.Num(7), tree.Num(8), tree.Num(9))
	want = object("10 9 Z a aa b \u00e9 \uffff \U00010000", tree.Num(9), tree.Num(8), tree.Num(7), tree.Num(5), tree.Num(6), tree.Num(4), tree.Num(3), tree.Num(2), tree.Num(1))
	if got := tree.Sorted(bytewise); !same(got, want) {
		t.Errorf("%v", got)
	}
	empty := api.Value{Kind: api.Object, Keys: []string{"a", "", "\x00"}, List: []api.Value{null, yes, no}}
	if got := tree.Sorted(empty); !slices.Equal(got.Keys, []string{"", "\x00", "a"}) || !got.List[0].Bool {
		t.Errorf("%v", got)
	}
	deep := chainOf(api.MaxDeep-1, object("b a", null, yes), list())
	if got := tree.Sorted(deep); !rising(got) || rising(deep) || !tree.Equal(got, deep) {
		t.Errorf("%v", got)
	}
	// It is a value that may be, though it is above Check's limit.
	long := list(many(api.MaxText), object("b a", null, yes))
	if got := tree.Sorted(long); !rising(got) || !tree.Equal(got, long) {
		t.Error("a long one is not sorted")
	}
}

// P3.2: Sorted of what may not be.
func TestSortedWrong(t *testing.T) {
	for name, c := range wrongs() {
		for _, v := range []api.Value{c.v, object("b a", yes, c.v), list(object("b a", yes, null), c.v)} {
			if got := tree.Sorted(v); !same(got, v) {
				t.Errorf("%s: kind %d, %d values", name, got.Kind, tree.Count(got))
			}
		}
	}
	if got := tree.Sorted(endless()); got.Kind != api.List || len(got.List) != 2 || tree.Depth(got) != 1001 {
		t.Error("a list that holds itself")
	}
}

// small answers all values of a few kinds that are up to so deep, with up to two parts a value.
func small(deep int) []api.Value {
	vs := []api.Value{null, yes, tree.Num(1), tree.Text("a"), list(), object("")}
	if deep == 1 {
		return vs
	}
	parts := small(deep - 1)
	for _, p := range parts {
		vs = append(vs, list(p), object("a", p), object("b", p))
		for _, q := range parts {
			vs = append(vs, list(p, q), object("a b", p, q), object("b a", p, q), object("c a", p, q))
		}
	}
	return vs
}

// P3.4: of all small values one of Equal, Less and Less turned about holds; and what the order is worth on its own: a line of values that it has sorted rises throughout.
func TestOrderOfAll(t *testing.T) {
	vs := small(2)
	for _, p := range small(2)[:40] {
		vs = append(vs, list(p, yes), object("a b", null, p), object("b a", null, p))
	}
	for _, a := range vs {
		for _, b := range vs {
			n := 0
			for _, holds := range []bool{tree.Equal(a, b), tree.Less(a, b), tree.Less(b, a)} {
				if holds {
					n++
				}
			}
			if n != 1 || tree.Equal(a, b) != tree.Equal(b, a) || tree.Equal(a, b) != same(tree.Sorted(a), tree.Sorted(b)) {
				t.Fatalf("%v, %v", a, b)
			}
		}
	}
	line := slices.Clone(vs)
	slices.SortStableFunc(line, func(a, b api.Value) int {
		switch {
		case tree.Less(a, b):
			return -1
		case tree.Less(b, a):
			return 1
		}
		return 0
	})
	for i, a := range line {
		for _, b := range line[i:] {
			if tree.Less(b, a) {
				t.Fatalf("%v stands ahead of %v, but not throughout", a, b)
			}
		}
	}
}

// P3.4: the order goes on through three values: where keys and values, beginnings and values tell against one another.
func TestOrderGoesOn(t *testing.T) {
	var vs []api.Value
	for _, keys := range []string{"a", "a b", "a c", "b", "b c", "a b c"} {
		for n := range 8 {
			v := object(keys)
			for i := range v.Keys {
				v.List = append(v.List, tree.Num(n>>i&1))
			}
			vs = append(vs, v, turned(v))
		}
	}
	less, equal := map[[2]int]bool{}, map[[2]int]bool{}
	for i, a := range vs {
		for j, b := range vs {
			less[[2]int{i, j}], equal[[2]int{i, j}] = tree.Less(a, b), tree.Equal(a, b)
		}
	}
	for i := range vs {
		for j := range vs {
			for k := range vs {
				ij, jk, ik := [2]int{i, j}, [2]int{j, k}, [2]int{i, k}
				if less[ij] && less[jk] && !less[ik] || equal[ij] && (less[jk] != less[ik] || equal[jk] != equal[ik]) {
					t.Fatalf("%v, %v, %v", vs[i], vs[j], vs[k])
				}
			}
		}
	}
}

// P3.4: what is sorted is equal to what it was, and two sorted ones are equal just if they are the same.
func TestSortedOfAll(t *testing.T) {
	for _, v := range small(3) {
		s := tree.Sorted(v)
		if !rising(s) || !tree.Equal(v, s) || !same(tree.Sorted(s), s) || !same(tree.Sorted(turned(v)), s) || tree.Check(s) != api.OK || tree.Count(s) != tree.Count(v) || tree.Depth(s) != tree.Depth(v) {
			t.Fatalf("Sorted(%v): %v", v, s)
		}
	}
}

// P3.2: the greatest numbers don't wrap round where they are held against one another.
func TestLessGreat(t *testing.T) {
	if tree.Less(tree.Num(api.MaxNumber), tree.Num(-api.MaxNumber)) || !tree.Less(tree.Num(-api.MaxNumber), tree.Num(api.MaxNumber)) {
		t.Error("the greatest, the least")
	}
	if tree.Less(tree.Num(math.MinInt), tree.Num(0)) || tree.Less(tree.Num(0), tree.Num(math.MaxInt)) {
		t.Error("numbers that may not be")
	}
}
