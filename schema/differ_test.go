package schema_test

import (
	"slices"
	"testing"

	"hoarding/api"
	"hoarding/schema"
	"hoarding/tree"
)

func differs(t *testing.T, kind string, a, b []api.Given, want int8) {
	t.Helper()
	if c, e := schema.Differ(kind, a, b); c != want || e != api.OK {
		t.Errorf("Differ of %s, %v, %v: %d, %d; not %d", kind, a, b, c, e, want)
	}
}

func refuses(t *testing.T, kind string, a, b []api.Given, want api.Errno) {
	t.Helper()
	if c, e := schema.Differ(kind, a, b); c != 0 || e != want {
		t.Errorf("Differ of %s, %.200v, %.200v: %d, %d; not %d", kind, a, b, c, e, want)
	}
}

// turned tells what is to be done where a property changes.
func turned(spec api.Spec) int8 {
	if spec.Replace {
		return api.ChReplace
	}
	return api.ChModify
}

// P9.2: the chapter's example.
func TestDifferExample(t *testing.T) {
	differs(t, "Disk", []api.Given{number("Size", 1)}, []api.Given{number("Size", 2)}, api.ChModify)
}

// P9.2: each property alone: given in one alone, with another value, the same; unknown in b.
func TestDifferOne(t *testing.T) {
	for _, kind := range kinds {
		differs(t, kind, nil, nil, api.ChNone)
		differs(t, kind, nil, []api.Given{}, api.ChNone)
		for _, spec := range specs(kind) {
			want := turned(spec)
			if spec.Kind != api.Number {
				b := []api.Given{unknown(spec.Name)}
				differs(t, kind, nil, b, want)
				for _, v := range goods(spec.Kind) {
					differs(t, kind, []api.Given{{Name: spec.Name, V: v}}, b, want)
				}
			}
			for _, v := range goods(spec.Kind) {
				a := []api.Given{{Name: spec.Name, V: v}}
				differs(t, kind, nil, a, want)
				differs(t, kind, a, nil, want)
				for _, w := range goods(spec.Kind) {
					if tree.Equal(v, w) {
						differs(t, kind, a, []api.Given{{Name: spec.Name, V: w}}, api.ChNone)
					} else {
						differs(t, kind, a, []api.Given{{Name: spec.Name, V: w}}, want)
					}
				}
			}
		}
	}
}

// P9.2: one property among all the others: gone, come, unknown, with another value.
func TestDifferAmong(t *testing.T) {
	for _, kind := range kinds {
		l := all(kind)
		differs(t, kind, l, clones(l), api.ChNone)
		for i, spec := range specs(kind) {
			but := slices.Delete(clones(l), i, i+1)
			differs(t, kind, l, but, turned(spec))
			differs(t, kind, but, l, turned(spec))
			other := clones(l)
			other[i].V = goods(spec.Kind)[4]
			differs(t, kind, l, other, turned(spec))
			if spec.Kind != api.Number {
				other[i] = unknown(spec.Name)
				differs(t, kind, l, other, turned(spec))
				differs(t, kind, but, other, turned(spec))
			}
		}
	}
}

// P9.2: both at once: what replaces goes ahead, wherever it stands.
func TestDifferBoth(t *testing.T) {
	disk := []api.Given{text("Kind", "a"), number("Size", 1), tags("Tags", "x")}
	for _, b := range [][]api.Given{
		{text("Kind", "b"), number("Size", 2), tags("Tags", "x")},
		{text("Kind", "b"), number("Size", 1), tags("Tags", "y")},
		{unknown("Kind"), number("Size", 2), unknown("Tags")},
		{number("Size", 2)},
		{unknown("Kind")},
		nil,
	} {
		differs(t, "Disk", disk, b, api.ChReplace)
	}
	for _, b := range [][]api.Given{
		{text("Kind", "a")},
		{text("Kind", "a"), number("Size", 2)},
		{text("Kind", "a"), number("Size", 1), unknown("Tags")},
		{text("Kind", "a"), number("Size", 1), tags("Tags", "x", "x")},
		{text("Kind", "a"), number("Size", 1), tags("Tags")},
	} {
		differs(t, "Disk", disk, b, api.ChModify)
	}
	rule := []api.Given{text("Node", "p1"), number("Port", 80)}
	differs(t, "Rule", rule, []api.Given{text("Node", "p2"), number("Port", 81)}, api.ChReplace)
	differs(t, "Rule", rule, []api.Given{unknown("Node"), number("Port", 81)}, api.ChReplace)
	differs(t, "Rule", rule, []api.Given{unknown("Node"), number("Port", 80)}, api.ChModify)
	differs(t, "Rule", rule, []api.Given{unknown("Node")}, api.ChReplace)
}

// P9.2: values that are equal though they are not the same field by field; and a nought that is given is not one that is not.
func TestDifferEqual(t *testing.T) {
	none := api.Value{Kind: api.List, List: []api.Value{}, Keys: []string{}}
	differs(t, "Disk", []api.Given{tags("Tags")}, []api.Given{{Name: "Tags", V: none}}, api.ChNone)
	differs(t, "Disk", []api.Given{tags("Tags")}, nil, api.ChModify)
	differs(t, "Disk", []api.Given{{Name: "Size", V: api.Value{Kind: api.Number, Keys: []string{}}}}, []api.Given{number("Size", 0)}, api.ChNone)
	differs(t, "Disk", nil, []api.Given{number("Size", 0)}, api.ChModify)
	differs(t, "Net", []api.Given{text("Range", "")}, nil, api.ChReplace)
	differs(t, "Disk", []api.Given{tags("Tags", "a", "b")}, []api.Given{tags("Tags", "b", "a")}, api.ChModify)
}

// P9.2: Differ where a is wrong, where b is, where both are, where a has unknown ones.
func TestDifferRefuses(t *testing.T) {
	for _, kind := range kinds {
		good := all(kind)
		for i, spec := range specs(kind) {
			for _, v := range bads(spec.Kind) {
				bad := clones(good)
				bad[i].V = v
				refuses(t, kind, bad, good, api.ErrProp)
				refuses(t, kind, good, bad, api.ErrProp)
				refuses(t, kind, bad, bad, api.ErrProp)
				refuses(t, kind, bad[i:i+1], nil, api.ErrProp)
				refuses(t, kind, nil, bad[i:i+1], api.ErrProp)
			}
			some := clones(good)
			some[i] = unknown(spec.Name)
			for _, b := range [][]api.Given{nil, good, some, some[i : i+1], {{Name: "Nothing"}}} {
				refuses(t, kind, some, b, api.ErrProp)
				refuses(t, kind, some[i:i+1], b, api.ErrProp)
			}
		}
		turnedAbout := clones(good)
		slices.Reverse(turnedAbout)
		refuses(t, kind, turnedAbout, good, api.ErrProp)
		refuses(t, kind, good, turnedAbout, api.ErrProp)
	}
	refuses(t, "Disk", []api.Given{text("Label", "a")}, nil, api.ErrProp)
	refuses(t, "Disk", nil, []api.Given{text("Label", "a")}, api.ErrProp)
}
