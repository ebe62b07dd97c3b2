package store_test

import (
	"testing"

	"hoarding/api"
	"hoarding/schema"
	"hoarding/store"
)

// gets asks s for an id, and wants what the thing is, or none.
func gets(t *testing.T, s store.Store, phys string, want *api.Thing) {
	t.Helper()
	x, ok := store.Get(s, phys)
	if ok != (want != nil) {
		t.Errorf("Get of %.20q: %v, %v", phys, x, ok)
	}
	if want == nil {
		want = &api.Thing{}
	}
	if x.Phys != want.Phys || x.Type != want.Type || !schema.Same(x.Props, want.Props) {
		t.Errorf("Get of %.20q: %v", phys, x)
	}
}

// P10.1: Get of things that are there, of those that are gone or never were, and of what is no id.
func TestGet(t *testing.T) {
	s := several()
	for i := range s.L {
		gets(t, s, s.L[i].Phys, &s.L[i])
	}
	for _, phys := range []string{"p1", "p4", "p8", "p12", "p13", "p99", "p1099511627776", "", "p", "2", "p0", "p02", "p-2", "p+2", "p2 ", "P2", "p2x"} {
		gets(t, s, phys, nil)
	}
	for _, phys := range []string{"", "p1", "p7"} {
		gets(t, of(7), phys, nil)
		gets(t, store.Store{}, phys, nil)
	}
}

// P10.1: Get behind a Delete, behind an Update, behind a Create.
func TestGetBehind(t *testing.T) {
	s, phys := create(t, several(), "Net", text("Label", "m"))
	gets(t, s, phys, &api.Thing{Phys: "p13", Type: "Net", Props: givens{text("Label", "m")}})
	s = update(t, s, phys, text("Label", "n"))
	gets(t, s, phys, &api.Thing{Phys: "p13", Type: "Net", Props: givens{text("Label", "n")}})
	s = remove(t, s, phys)
	gets(t, s, phys, nil)
	gets(t, s, "p10", &several().L[3])
}

// R1: Get of stores that may not be finds what stands there, the first of those with the same id.
func TestGetOfWrong(t *testing.T) {
	for _, s := range wrongs() {
		first := map[string]bool{}
		for i, x := range s.L {
			if !first[x.Phys] {
				gets(t, s, x.Phys, &s.L[i])
			}
			first[x.Phys] = true
		}
		gets(t, s, "p7", nil)
	}
}

// sames asks both ways about.
func sames(t *testing.T, a, b store.Store, want bool) {
	t.Helper()
	for _, c := range [][2]store.Store{{a, b}, {b, a}} {
		if got := store.Same(c[0], c[1]); got != want {
			t.Errorf("Same of %.300v, %.300v: %v", c[0], c[1], got)
		}
	}
}

// P10.1: each store against each: the same ones alone, whether or not they may be.
func TestSame(t *testing.T) {
	all := []store.Store{
		{}, of(1), of(-1), of(most), of(1, thing("p1", "Disk")), of(2, thing("p1", "Disk")), of(2, thing("p2", "Disk")), of(2, thing("p1", "Net")), of(2, thing("p1", "")), of(2, thing("", "Disk")), of(2, thing("p01", "Disk")),
		of(2, thing("p1", "Disk"), thing("p2", "Disk")), of(2, thing("p2", "Disk"), thing("p1", "Disk")), of(2, thing("p1", "Disk"), thing("p1", "Disk")), of(2, thing("p1", "Disk"), thing("p2", "Net")), of(2, thing("p1", "Net"), thing("p2", "Disk")),
		of(2, thing("p1", "Disk", number("Size", 1))), of(2, thing("p1", "Disk", number("Size", 2))), of(2, thing("p1", "Disk", text("Size", "1"))), of(2, thing("p1", "Disk", unknown("Size"))), of(2, thing("p1", "Disk", number("size", 1))),
		of(2, thing("p1", "Disk", tags())), of(2, thing("p1", "Disk", tags("x", "y"))), of(2, thing("p1", "Disk", tags("y", "x"))), of(2, thing("p1", "Disk", text("Kind", "a"), number("Size", 1))), of(2, thing("p1", "Disk", number("Size", 1), text("Kind", "a"))),
		of(2, thing("p1", "Disk"), thing("p2", "Disk", number("Size", 1))), of(2, thing("p1", "Disk", number("Size", 1)), thing("p2", "Disk")), several(), of(13, several().L...), of(12, several().L[:4]...), of(12, several().L[1:]...),
	}
	for i, a := range all {
		for j, b := range all {
			sames(t, a, copied(b), i == j)
		}
	}
}

// P10.1: lists of nothing and none alike, and values that are equal though they are not the same field by field.
func TestSameEqual(t *testing.T) {
	sames(t, store.Store{}, store.Store{L: []api.Thing{}}, true)
	sames(t, of(1, thing("p1", "Net")), of(1, api.Thing{Phys: "p1", Type: "Net", Props: givens{}}), true)
	hollow := tags()
	hollow.V.List, hollow.V.Keys = []api.Value{}, []string{}
	sames(t, of(1, thing("p1", "Disk", tags())), of(1, thing("p1", "Disk", hollow)), true)
	one, two := number("a", 1).V, number("a", 2).V
	a := api.Value{Kind: api.Object, Keys: []string{"a", "b"}, List: []api.Value{one, two}}
	b := api.Value{Kind: api.Object, Keys: []string{"b", "a"}, List: []api.Value{two, one}}
	sames(t, of(1, thing("p1", "Disk", api.Given{Name: "Kind", V: a})), of(1, thing("p1", "Disk", api.Given{Name: "Kind", V: b})), true)
	b.Keys[0], b.Keys[1] = "a", "b"
	sames(t, of(1, thing("p1", "Disk", api.Given{Name: "Kind", V: a})), of(1, thing("p1", "Disk", api.Given{Name: "Kind", V: b})), false)
}
