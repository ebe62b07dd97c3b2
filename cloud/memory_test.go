package cloud_test

import (
	"fmt"
	"slices"
	"testing"

	"hoarding/api"
	"hoarding/cloud"
	"hoarding/tree"
)

// roomy answers l in memory of its own, with room to spare behind each list, in which something stands.
func roomy(l givens) givens {
	l = append(slices.Clone(l), text("room", "room"), tags("room"))[:len(l)]
	for i, g := range l {
		l[i].V.List = append(slices.Clone(g.V.List), tree.Text("room"), tree.Text("room"))[:len(g.V.List)]
		l[i].V.Keys = append(slices.Clone(g.V.Keys), "room", "room")[:len(g.V.Keys)]
		for k, part := range l[i].V.List {
			l[i].V.List[k].Keys = append(slices.Clone(part.Keys), "room")[:len(part.Keys)]
		}
	}
	return l
}

// inside goes over all that l holds, what stands behind its lists too: each property, value and key by its place in memory.
func inside(l givens, see func(place any)) {
	l = l[:cap(l)]
	for i := range l {
		see(&l[i])
		insideValue(l[i].V, see)
	}
}

func insideValue(v api.Value, see func(place any)) {
	keys, list := v.Keys[:cap(v.Keys)], v.List[:cap(v.List)]
	for i := range keys {
		see(&keys[i])
	}
	for i := range list {
		see(&list[i])
		insideValue(list[i], see)
	}
}

// told is all that a cloud tells, lists of it that must not share memory.
type told struct {
	flight []int
	things []api.Thing
	calls  []api.Call
	gets   []api.Thing
}

func tell(c *cloud.Cloud) told {
	l := told{flight: c.Flight(), things: c.Things(), calls: c.Calls()}
	for _, phys := range []string{"p1", "p2", "p3", "p4", "p5"} {
		x, _ := c.Get(phys)
		l.gets = append(l.gets, x)
	}
	return l
}

// inside goes over all that was told, by its places.
func (l told) inside(see func(place any)) {
	flight, things, calls := l.flight[:cap(l.flight)], l.things[:cap(l.things)], l.calls[:cap(l.calls)]
	for i := range flight {
		see(&flight[i])
	}
	for i := range things {
		see(&things[i])
		inside(things[i].Props, see)
	}
	for i := range calls {
		see(&calls[i])
		inside(calls[i].Props, see)
	}
	for _, x := range l.gets {
		inside(x.Props, see)
	}
}

// spoil changes all that goes over; what goes over it goes on from what it was.
func spoil(over func(see func(place any))) {
	var places []any
	over(func(place any) { places = append(places, place) })
	for _, place := range places {
		switch x := place.(type) {
		case *int:
			*x = -9
		case *api.Thing:
			*x = thing("spoilt", "spoilt")
		case *api.Call:
			*x = creating(-9, "spoilt")
		case *api.Given:
			*x = unknown("spoilt")
		case *api.Value:
			*x = tree.Text("spoilt")
		case *string:
			*x = "spoilt"
		}
	}
}

// content answers all that inside goes over of l, in memory of its own.
func content(l givens) (out []any) {
	flat := func(v api.Value) [6]any { return [6]any{v.Kind, v.Bool, v.Num, v.Text, len(v.List), len(v.Keys)} }
	inside(l, func(place any) {
		switch x := place.(type) {
		case *api.Given:
			out = append(out, x.Name, x.Unknown, flat(x.V))
		case *api.Value:
			out = append(out, flat(*x))
		case *string:
			out = append(out, *x)
		}
	})
	return out
}

// sames wants two clouds to tell the same.
func sames(t *testing.T, got, want told) {
	t.Helper()
	if !slices.Equal(got.flight, want.flight) || !slices.EqualFunc(got.calls, want.calls, sameCall) || !slices.EqualFunc(got.things, want.things, sameThing) || !slices.EqualFunc(got.gets, want.gets, sameThing) {
		t.Errorf("%v, not %v", got, want)
	}
}

// deeds are calls, and of the Ends behind each the places; some go well, some badly, some are refused, some stay in flight.
func deeds() ([]api.Call, [][]int) {
	hollow := givens{{Name: "Size", V: api.Value{Kind: api.Number, Num: 1, List: []api.Value{}, Keys: []string{}}}, tags("x", "y", "z")}
	return []api.Call{
		creating(1, "Disk", full()...), creating(2, "Disk", hollow...), creating(3, "Net", text("Label", "l")), updating(4, "p1", "Disk", text("Kind", "a"), tags("z")), updating(5, "p2", "Disk", hollow...),
		updating(5, "p1", "Disk", full()...), creating(6, "Disk", tags("x"), number("Size", 1)), creating(0, "Disk", tags("x")), deleting(7, "p3"), deleting(8, "p2"), creating(9, "Disk", tags("u", "v")), creating(10, "Disk", tags("w")),
	}, [][]int{{}, {0, 0}, {}, {0}, {}, {1, 0}, {}, {}, {0}, {}, {1}, {}}
}

// R4: what is handed in is not changed, what stands behind it neither, and not kept: it can be changed as soon as Submit answers.
func TestHandedIn(t *testing.T) {
	plain, c := cloud.New(), cloud.New()
	calls, places := deeds()
	for i, x := range calls {
		plain.Submit(x)
		x.Props = roomy(x.Props)
		was, props := content(x.Props), x.Props
		c.Submit(x)
		c.Submit(x)
		if !slices.Equal(content(props), was) {
			t.Errorf("Submit of %v", x)
		}
		spoil(func(see func(place any)) { inside(props, see) })
		for _, k := range places[i] {
			plain.End(k, true)
			c.End(k, true)
		}
		sames(t, tell(c), tell(plain))
	}
}

// R4: what is told, and what stands behind it, can be changed, and nothing else changes.
func TestToldChanged(t *testing.T) {
	plain, c := cloud.New(), cloud.New()
	calls, places := deeds()
	both := func(do func(c *cloud.Cloud)) {
		t.Helper()
		before := tell(c)
		do(plain)
		do(c)
		for range 2 {
			spoil(tell(c).inside)
			sames(t, tell(c), tell(plain))
		}
		spoil(before.inside)
		sames(t, tell(c), tell(plain))
	}
	for i, x := range calls {
		both(func(c *cloud.Cloud) { c.Submit(x) })
		for _, k := range places[i] {
			both(func(c *cloud.Cloud) { c.End(k, true) })
		}
	}
}

// R4: what was told stays as it was told, whatever comes behind it.
func TestToldStays(t *testing.T) {
	var before []told
	var was []string
	c := cloud.New()
	calls, places := deeds()
	keep := func() {
		before = append(before, tell(c))
		was = append(was, fmt.Sprint(before[len(before)-1]))
	}
	for i, x := range calls {
		c.Submit(x)
		keep()
		for _, k := range places[i] {
			c.End(k, true)
			keep()
		}
	}
	for len(c.Flight()) > 0 {
		c.End(len(c.Flight())-1, true)
		keep()
	}
	for i, l := range before {
		if got := fmt.Sprint(l); got != was[i] {
			t.Errorf("%s, not %s", got, was[i])
		}
	}
}

// R4: no two lists that are told share memory, of one answer or of two.
func TestToldApart(t *testing.T) {
	c := cloud.New()
	calls, places := deeds()
	for i, x := range calls {
		x.Props = roomy(x.Props)
		c.Submit(x)
		for _, k := range places[i] {
			c.End(k, true)
		}
		seen := map[any]int{}
		see := func(place any) { seen[place]++ }
		inside(x.Props, see)
		tell(c).inside(see)
		tell(c).inside(see)
		for place, n := range seen {
			if n > 1 {
				t.Fatalf("behind %v: what stands at one place (%T) stands in %d lists", x, place, n)
			}
		}
	}
}
