package store_test

import (
	"slices"
	"testing"

	"hoarding/api"
	"hoarding/store"
	"hoarding/tree"
)

// roomyProps answers l in other memory, with room to spare behind each list, in which something stands.
func roomyProps(l givens) givens {
	l = append(clones(l), text("room", "room"), tags("room"))[:len(l)]
	for i, g := range l {
		l[i].V.List = append(slices.Clone(g.V.List), tree.Text("room"), tree.Text("room"))[:len(g.V.List)]
		l[i].V.Keys = append(slices.Clone(g.V.Keys), "room", "room")[:len(g.V.Keys)]
	}
	return l
}

// roomy answers s likewise.
func roomy(s store.Store) store.Store {
	s = copied(s)
	s.L = append(s.L, thing("room", "room"), thing("room", "room", text("room", "room")))[:len(s.L)]
	for i, x := range s.L {
		s.L[i].Props = roomyProps(x.Props)
	}
	return s
}

// inside goes over all that the lists of s hold, what stands behind them too: each thing, property, value and key by its place in memory.
func inside(s store.Store, see func(place any)) {
	for i := range s.L[:cap(s.L)] {
		x := &s.L[:cap(s.L)][i]
		see(x)
		insideProps(x.Props, see)
	}
}

func insideProps(l givens, see func(place any)) {
	for i := range l[:cap(l)] {
		g := &l[:cap(l)][i]
		see(g)
		insideValue(g.V, see)
	}
}

func insideValue(v api.Value, see func(place any)) {
	for i := range v.Keys[:cap(v.Keys)] {
		see(&v.Keys[:cap(v.Keys)][i])
	}
	for i := range v.List[:cap(v.List)] {
		part := &v.List[:cap(v.List)][i]
		see(part)
		insideValue(*part, see)
	}
}

// content answers all that inside goes over, in memory of its own.
func content(s store.Store) (out []any) {
	inside(s, func(place any) {
		switch x := place.(type) {
		case *api.Thing:
			out = append(out, x.Phys, x.Type, len(x.Props))
		case *api.Given:
			out = append(out, x.Name, x.Unknown, flat(x.V))
		case *api.Value:
			out = append(out, flat(*x))
		case *string:
			out = append(out, *x)
		}
	})
	return out
}

// flat answers what v is but for what its lists hold.
func flat(v api.Value) [6]any {
	return [6]any{v.Kind, v.Bool, v.Num, v.Text, len(v.List), len(v.Keys)}
}

// spoil changes all that s holds, what stands behind its lists too.
func spoil(s store.Store) {
	var places []any
	inside(s, func(place any) { places = append(places, place) })
	for _, place := range places {
		switch x := place.(type) {
		case *api.Thing:
			*x = thing("spoilt", "spoilt")
		case *api.Given:
			*x = unknown("spoilt")
		case *api.Value:
			*x = tree.Text("spoilt")
		case *string:
			*x = "spoilt"
		}
	}
}

// apart wants no two lists of all these stores to share memory, nor two of one.
func apart(t *testing.T, what string, all ...store.Store) {
	t.Helper()
	seen := map[any]int{}
	for _, s := range all {
		inside(s, func(place any) { seen[place]++ })
	}
	for place, n := range seen {
		if n > 1 {
			t.Errorf("%s: what stands at one place (%T) stands in %d lists", what, place, n)
			return
		}
	}
}

// asStore answers properties as those of the only thing of a store.
func asStore(l givens) store.Store { return of(1, api.Thing{Props: l}) }

// told are all that the calls tell of s.
func told(s store.Store, kind, phys string, props givens) (out []store.Store) {
	a, _, _ := store.Create(s, kind, props)
	b, _ := store.Update(s, phys, props)
	c, _ := store.Delete(s, phys)
	x, _ := store.Get(s, phys)
	return append(out, a, b, c, of(1, x))
}

// memories are stores, and what to ask of them: calls that go well and such as do not.
func memories() (out []store.Store, asks []func() (kind, phys string, props givens)) {
	out = []store.Store{{}, several(), of(1, thing("p1", "Disk", tags("x", "y"))), of(most, several().L...)}
	out = append(out, wrongs()["unknown behind"], wrongs()["p1 twice"])
	for _, phys := range []string{"p1", "p2", "p3", "p11", "p12"} {
		for _, l := range []givens{nil, {number("Size", 3), tags("z", "a")}, {text("Kind", "a"), tags("z")}, {unknown("Tags")}, {{Name: "Tags", V: api.Value{Kind: 9, List: tags("z").V.List, Keys: []string{"k"}}}}} {
			asks = append(asks, func() (string, string, givens) { return "Disk", phys, l })
		}
	}
	return out, asks
}

// R4: what is handed in is not changed, nor what stands behind it; what is told shares no memory with it, nor with what is told again; and can be changed without anything else changing.
func TestMemory(t *testing.T) {
	stores, asks := memories()
	for _, one := range stores {
		for _, ask := range asks {
			kind, phys, l := ask()
			s, props := roomy(one), roomyProps(l)
			was, wasProps := content(s), content(asStore(props))
			first, second := told(s, kind, phys, props), told(s, kind, phys, props)
			apart(t, kind+phys, append(append([]store.Store{s, asStore(props)}, first...), second...)...)
			for _, x := range first {
				spoil(x)
			}
			store.Check(s)
			store.Same(s, second[0])
			if !slices.Equal(content(s), was) || !slices.Equal(content(asStore(props)), wasProps) {
				t.Errorf("%s, %v: %v, %v", phys, l, s, props)
			}
			spoil(s)
			spoil(asStore(props))
			for i, x := range told(one, kind, phys, l) {
				sames(t, x, second[i], true)
			}
		}
	}
}

// R4: lists that are handed in as one are told as several.
func TestSharedIn(t *testing.T) {
	one := tags("x", "y")
	l := givens{text("Kind", "a"), one}
	s := of(3, thing("p1", "Disk", l...), thing("p2", "Disk", one), thing("p3", "Disk", l...))
	for i, x := range told(s, "Disk", "p1", l) {
		apart(t, "told", x)
		if e := store.Check(x); e != api.OK && i < 3 {
			t.Errorf("%v: %d", x, e)
		}
	}
	list := api.Value{Kind: api.List, List: []api.Value{one.V, one.V}, Keys: []string{"k"}}
	s = of(3, thing("p1", "Disk", api.Given{Name: "a", V: list}, api.Given{Name: "b", V: list}))
	x, _ := store.Get(s, "p1")
	apart(t, "Get", of(1, x))
}

// R3, R4: stores that came before go on as they were, whatever was made of them, and in whichever order.
func TestBefore(t *testing.T) {
	var line, was []store.Store
	s := roomy(several())
	for i := range 40 {
		line, was = append(line, s), append(was, copied(s))
		s, _ = create(t, s, "Disk", number("Size", i), tags("x"))
		line, was = append(line, s), append(was, copied(s))
		s = update(t, s, s.L[len(s.L)-1].Phys, number("Size", i+1))
		if i%3 == 0 {
			line, was = append(line, s), append(was, copied(s))
			s = remove(t, s, s.L[i%2].Phys)
		}
	}
	for _, s := range slices.Backward(line) {
		one, _ := create(t, s, "Net")
		two, _ := create(t, s, "Rule", number("Port", 1))
		spoil(one)
		spoil(two)
		for _, x := range s.L {
			spoil(remove(t, s, x.Phys))
		}
	}
	for i, s := range line {
		sames(t, s, was[i], true)
	}
}
