package store_test

import (
	"strconv"
	"testing"

	"hoarding/api"
	"hoarding/store"
	"hoarding/tree"
)

// refused asks all calls about a store of a Disk whose Tags are v, and for such a Disk.
func refused(t *testing.T, v api.Value) {
	t.Helper()
	bad := givens{{Name: "Tags", V: v}}
	s := of(1, thing("p1", "Disk", bad...))
	if e := store.Check(s); e != api.ErrArg {
		t.Errorf("Check: %d", e)
	}
	if !store.Same(s, s) || store.Same(s, several()) {
		t.Error("Same")
	}
	creates(t, s, "Disk", nil, api.ErrArg)
	updates(t, s, "p1", nil, api.ErrArg)
	removes(t, s, "p1", api.ErrArg)
	creates(t, several(), "Disk", bad, api.ErrProp)
	updates(t, several(), "p2", bad, api.ErrProp)
	if x, ok := store.Get(s, "p1"); !ok || x.Phys != "p1" || len(x.Props) != 1 || len(x.Props[0].V.List) != len(v.List) {
		t.Errorf("Get: %v, %v", x.Phys, ok)
	}
}

// R1: all calls end on values that are very deep, very long, or hold themselves.
func TestGreatValues(t *testing.T) {
	list := func(parts ...api.Value) api.Value { return api.Value{Kind: api.List, List: parts} }
	deep := tree.Num(1)
	for range 2_000_000 {
		deep = list(deep)
	}
	refused(t, deep)
	refused(t, list(make([]api.Value, 2_000_000)...))
	endless := list(api.Value{}, api.Value{})
	endless.List[1] = endless
	refused(t, endless)
	endless.List[0] = endless
	refused(t, endless)
	wide := list(make([]api.Value, 100_000)...)
	for i := range wide.List {
		wide.List[i] = wide
	}
	refused(t, wide)
}

// R4: values such as no property has, but not endless, are told in new memory throughout.
func TestGreatMemory(t *testing.T) {
	v := api.Value{Kind: api.Object, Keys: []string{"a", "b"}, List: []api.Value{tree.Num(1), {Kind: 9, Keys: []string{"c"}}}}
	for range 2000 {
		v = api.Value{Kind: api.List, List: []api.Value{v, tree.Text("x")}, Keys: []string{"k"}}
	}
	s := of(1, thing("p1", "Disk", api.Given{Name: "Tags", V: v}))
	x, _ := store.Get(s, "p1")
	y, _ := store.Get(s, "p1")
	sames(t, s, of(1, x), true)
	apart(t, "deep", s, of(1, x), of(1, y))
}

// R1: stores of many things.
func TestManyThings(t *testing.T) {
	const n = 20_000
	s := store.Store{Made: 2 * n}
	for i := range n {
		s.L = append(s.L, thing("p"+strconv.Itoa(2*i+1), kinds[i%4]))
	}
	if e := store.Check(s); e != api.OK {
		t.Errorf("%d", e)
	}
	last := s.L[n-1].Phys
	gets(t, s, last, &s.L[n-1])
	sames(t, remove(t, s, last), of(2*n, s.L[:n-1]...), true)
	got, phys := create(t, s, "Net")
	if phys != "p40001" || len(got.L) != n+1 {
		t.Errorf("%q, %d", phys, len(got.L))
	}
	s.L[n-1].Phys = s.L[n-2].Phys
	if e := store.Check(s); e != api.ErrArg {
		t.Errorf("%d", e)
	}
	many := make(givens, 100_000)
	creates(t, store.Store{}, "Disk", many, api.ErrProp)
	if e := store.Check(of(1, thing("p1", "Disk", many...))); e != api.ErrArg {
		t.Errorf("%d", e)
	}
}
