package schema_test

import (
	"slices"
	"testing"

	"hoarding/api"
	"hoarding/schema"
	"hoarding/tree"
)

// R4: what Types tells can be changed, with the room behind it, without anything else changing.
func TestTypesMemory(t *testing.T) {
	l, m := schema.Types(), schema.Types()
	l = append(l, "behind")
	for i := range l[:cap(l)] {
		l[:cap(l)][i] = "spoilt"
	}
	if n := schema.Types(); !slices.Equal(m, kinds) || !slices.Equal(n, kinds) {
		t.Errorf("%q, %q", m, n)
	}
	TestFind(t)
}

// R4: what Specs tells can be changed, with the room behind it, without anything else changing.
func TestSpecsMemory(t *testing.T) {
	for _, kind := range kinds {
		l, _ := schema.Specs(kind)
		m, _ := schema.Specs(kind)
		l = append(l, api.Spec{})
		for i := range l[:cap(l)] {
			l[:cap(l)][i] = api.Spec{Name: "spoilt", Kind: 9}
		}
		n, _ := schema.Specs(kind)
		if !slices.Equal(m, specs(kind)) || !slices.Equal(n, specs(kind)) {
			t.Errorf("%s: %v, %v", kind, m, n)
		}
	}
	TestTypes(t)
	TestFind(t)
}

// roomy answers l in other memory, with room to spare behind each list, in which something stands.
func roomy(l []api.Given) []api.Given {
	l = append(clones(l), text("room", "room"))[:len(l)]
	for i, g := range l {
		l[i].V.List = append(slices.Clone(g.V.List), tree.Text("room"))[:len(g.V.List)]
		l[i].V.Keys = append(slices.Clone(g.V.Keys), "room")[:len(g.V.Keys)]
	}
	return l
}

// unspoilt tells whether l is as roomy made it.
func unspoilt(l, was []api.Given) bool {
	if !schema.Same(l, was) || !schema.Same(l[:len(l)+1], append(clones(was), text("room", "room"))) {
		return false
	}
	for _, g := range l {
		v := g.V
		if room := v.List[:len(v.List)+1][len(v.List)]; !tree.Equal(room, tree.Text("room")) || v.Keys[:len(v.Keys)+1][len(v.Keys)] != "room" {
			return false
		}
	}
	return true
}

// R4: what is handed to Check, Differ and Same is not changed, nor what stands behind it.
func TestUnchanged(t *testing.T) {
	lists := [][]api.Given{
		nil,
		{text("Kind", "a"), number("Size", 1), tags("Tags", "x", "y")},
		{text("Kind", "b"), number("Size", 2), tags("Tags")},
		{unknown("Kind"), number("Size", 2), unknown("Tags")},
		{tags("Tags", "z", "a"), number("Size", 2), text("Kind", "b")},
		{{Name: "Tags", V: object("b a c", tree.Num(1), texts("z", "a"), api.Value{})}},
		{{Name: "Tags", V: api.Value{Kind: 9, List: []api.Value{object("b a", tree.Num(2), tree.Num(1))}, Keys: []string{"z", "a"}}}},
	}
	for _, one := range lists {
		for _, two := range lists {
			for _, kind := range []string{"Disk", "Node", ""} {
				a, b := roomy(one), roomy(two)
				schema.Check(kind, a)
				schema.Differ(kind, a, b)
				schema.Same(a, b)
				if !unspoilt(a, one) || !unspoilt(b, two) {
					t.Errorf("%s, %v, %v: %v, %v", kind, one, two, a, b)
				}
			}
		}
	}
}

// R3, R4: nothing of what was handed in is kept: what is asked of other properties, in the same memory, is told anew.
func TestNotKept(t *testing.T) {
	a := []api.Given{text("Kind", "a"), number("Size", 1), tags("Tags", "x", "y")}
	b := clones(a)
	for range 3 {
		differs(t, "Disk", a, b, api.ChNone)
		sames(t, a, b, true)
		b[2].V.List[1].Text = "z"
		differs(t, "Disk", a, b, api.ChModify)
		sames(t, a, b, false)
		b[0] = unknown("Kind")
		differs(t, "Disk", a, b, api.ChReplace)
		refuses(t, "Disk", b, a, api.ErrProp)
		b[0].Name = "kind"
		refuses(t, "Disk", a, b, api.ErrProp)
		copy(b, clones(a))
	}
}
