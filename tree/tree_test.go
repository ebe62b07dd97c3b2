package tree_test

import (
	"math"
	"slices"
	"testing"

	"hoarding/api"
	"hoarding/tree"
)

// P3.3: those values, and nothing beside.
func TestTextNum(t *testing.T) {
	for _, s := range []string{"", "a", "\u20ac\n", "\xff"} {
		if v := tree.Text(s); !same(v, api.Value{Kind: api.Text, Text: s}) {
			t.Errorf("Text(%q): %v", s, v)
		}
	}
	for _, n := range []int{0, 1, -1, api.MaxNumber, -api.MaxNumber, math.MaxInt, math.MinInt} {
		if v := tree.Num(n); !same(v, api.Value{Kind: api.Number, Num: n}) {
			t.Errorf("Num(%d): %v", n, v)
		}
	}
	if tree.Check(tree.Text("a")) != api.OK || tree.Check(tree.Num(1)) != api.OK {
		t.Error("these may be")
	}
}

// P3.2: Get.
func TestGet(t *testing.T) {
	v := object("b a aa", tree.Num(1), list(yes, object("x", no)), null)
	v.Keys, v.List = append(v.Keys, ""), append(v.List, tree.Text("empty"))
	for key, want := range map[string]api.Value{"b": tree.Num(1), "a": list(yes, object("x", no)), "aa": null, "": tree.Text("empty")} {
		if got, ok := tree.Get(v, key); !ok || !same(got, want) {
			t.Errorf("Get of %q: %v, %v", key, got, ok)
		}
	}
	for _, key := range []string{"A", "x", "ab", "a ", "\xff", "b\x00"} {
		if got, ok := tree.Get(v, key); ok || !same(got, null) {
			t.Errorf("Get of %q: %v, %v", key, got, ok)
		}
	}
	for _, v := range []api.Value{null, yes, tree.Num(1), tree.Text("a"), list(), list(null), list(object("a", yes)), object(""), {Kind: api.Object}} {
		for _, key := range []string{"", "a"} {
			if got, ok := tree.Get(v, key); ok || !same(got, null) {
				t.Errorf("Get of %v, %q: %v, %v", v, key, got, ok)
			}
		}
	}
}

// P3.2, R1: Get of what may not be.
func TestGetWrong(t *testing.T) {
	full := object("a b", yes, no)
	for _, kind := range []int8{api.Null, api.Bool, api.Number, api.Text, api.List, -1, 6, math.MaxInt8, math.MinInt8} {
		full.Kind = kind
		if got, ok := tree.Get(full, "a"); ok || !same(got, null) {
			t.Errorf("kind %d: %v, %v", kind, got, ok)
		}
	}
	few := object("a b c", yes, tree.Num(2))
	for key, want := range map[string]api.Value{"a": yes, "b": tree.Num(2)} {
		if got, ok := tree.Get(few, key); !ok || !same(got, want) {
			t.Errorf("Get of %q: %v, %v", key, got, ok)
		}
	}
	if got, ok := tree.Get(few, "c"); ok || !same(got, null) {
		t.Errorf("a key without a value: %v, %v", got, ok)
	}
	for _, v := range []api.Value{{Kind: api.Object, Keys: []string{"x"}}, {Kind: api.Object, List: []api.Value{yes}}} {
		if got, ok := tree.Get(v, "x"); ok || !same(got, null) {
			t.Errorf("%v: %v, %v", v, got, ok)
		}
	}
	for name, c := range wrongs() {
		if got, ok := tree.Get(object("a b", null, c.v), "b"); !ok || !same(got, c.v) {
			t.Errorf("%s: kind %d, %v", name, got.Kind, ok)
		}
	}
	if got, ok := tree.Get(object("a", endless()), "a"); !ok || tree.Depth(got) != 1001 {
		t.Error("a list that holds itself")
	}
}

// walked answers what Walk goes over.
func walked(v api.Value) []api.Value { return slices.Collect(tree.Walk(v)) }

// P3.2: Walk tells the whole, then its parts in order, each with its own.
func TestWalk(t *testing.T) {
	inner, row := object("x y", yes, list(no)), list(tree.Num(1), list(), tree.Num(2))
	v := object("b a", inner, row)
	want := []api.Value{v, inner, yes, list(no), no, row, tree.Num(1), list(), tree.Num(2)}
	if got := walked(v); !slices.EqualFunc(got, want, same) {
		t.Errorf("%v", got)
	}
	for _, v := range append(ordered(), many(5), chain(30), chain(1500), list(many(2000), chain(3), many(3))) {
		if got := walked(v); len(got) != tree.Count(v) || !slices.EqualFunc(got, preorder(v), same) {
			t.Errorf("one %d deep: %d values", tree.Depth(v), len(got))
		}
	}
	for name, c := range wrongs() {
		if got := walked(c.v); !slices.EqualFunc(got, preorder(c.v), same) {
			t.Errorf("%s: %d values", name, len(got))
		}
	}
}

// preorder answers v, then its parts in order, each with its own.
func preorder(v api.Value) []api.Value {
	out := []api.Value{v}
	for _, part := range v.List {
		out = append(out, preorder(part)...)
	}
	return out
}

// P3.2, R4: it may be left early, at each place, and gone over again.
func TestWalkLeft(t *testing.T) {
	v := object("b a", list(tree.Num(1), list(no)), yes)
	walk, want := tree.Walk(v), preorder(v)
	for most := 1; most <= len(want); most++ {
		var got []api.Value
		for part := range walk {
			if got = append(got, part); len(got) == most {
				break
			}
		}
		if !slices.EqualFunc(got, want[:most], same) {
			t.Errorf("left behind %d: %v", most, got)
		}
	}
	steps := 0
	for range tree.Walk(endless()) {
		if steps++; steps == 5000 {
			break
		}
	}
	if steps != 5000 {
		t.Error("a list that holds itself", steps)
	}
}

// R4: an iterator tells what there was when it was made, whatever becomes of the value, and of what it told.
func TestWalkKeeps(t *testing.T) {
	vs := append(ordered(), object("b a", list(tree.Num(1), object("x", list(no))), yes), chain(100), chain(1000))
	for _, c := range wrongs() {
		if tree.Depth(c.v) <= 1000 {
			vs = append(vs, c.v)
		}
	}
	for _, v := range vs {
		v = clone(v)
		want := preorder(clone(v))
		walk := tree.Walk(v)
		scribble(v)
		for range 2 {
			n := 0
			for part := range walk {
				if n >= len(want) || !same(part, want[n]) {
					t.Fatalf("place %d of %d", n, len(want))
				}
				scribble(part)
				n++
			}
			if n != len(want) {
				t.Fatalf("%d of %d", n, len(want))
			}
		}
	}
	// What is deeper may share its parts with one another, but not with what was handed in.
	v := chain(1500)
	want, walk := clone(v), tree.Walk(v)
	scribble(v)
	for part := range walk {
		if !same(part, want) {
			t.Fatal("a very deep one")
		}
		break
	}
}

// R4: what was told shares nothing with what is told later, or with what was handed in.
func TestWalkApart(t *testing.T) {
	v := object("b a", list(tree.Num(1), object("x", list(no))), yes)
	want, got := preorder(clone(v)), walked(v)
	for i := range got {
		scribble(got[i])
		for j := i + 1; j < len(got); j++ {
			if !same(got[j], want[j]) {
				t.Fatalf("%d shares with %d", j, i)
			}
		}
	}
	if !same(v, want[0]) {
		t.Errorf("what was handed in: %v", v)
	}
}

// R4: what Sorted and Get answer shares nothing with what they were given, nor do they change that.
func TestNewMemory(t *testing.T) {
	vs := append(ordered(), chain(200), chainOf(300, list(yes), object("a")), chain(3000))
	for _, c := range wrongs() {
		vs = append(vs, c.v)
	}
	for _, v := range vs {
		for _, v := range []api.Value{v, object("b a", v, list(v, v))} {
			was := clone(v)
			scribble(tree.Sorted(v))
			for _, key := range []string{"a", "b"} {
				got, _ := tree.Get(v, key)
				scribble(got)
			}
			if !same(v, was) {
				t.Fatalf("changed: one %d deep, of %d values, kind %d", tree.Depth(was), tree.Count(was), was.Kind)
			}
		}
	}
	part := list(yes)
	got := tree.Sorted(object("a b", part, part))
	scribble(got.List[0])
	if !same(got.List[1], part) {
		t.Error("two lists of one answer share memory")
	}
}

// R4: spare room behind what is handed in stays as it is.
func TestSpareRoom(t *testing.T) {
	parts := []api.Value{tree.Num(1), object("d c", yes, no), tree.Num(7)}
	keys := []string{"b", "a", "spare"}
	v := api.Value{Kind: api.Object, List: parts[:2], Keys: keys[:2]}
	tree.Check(v)
	tree.Equal(v, v)
	tree.Less(v, null)
	tree.Sorted(v)
	tree.Get(v, "a")
	tree.Depth(v)
	tree.Count(v)
	for range tree.Walk(v) {
	}
	if !slices.EqualFunc(parts, []api.Value{tree.Num(1), object("d c", yes, no), tree.Num(7)}, same) || !slices.Equal(keys, []string{"b", "a", "spare"}) {
		t.Error(parts, keys)
	}
}
