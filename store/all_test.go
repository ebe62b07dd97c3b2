package store_test

import (
	"maps"
	"slices"
	"strconv"
	"testing"

	"hoarding/api"
	"hoarding/store"
	"hoarding/tree"
)

// made is a thing by the chapter's words alone.
type made struct {
	kind  string
	props givens
}

// model is a store by the chapter's words alone: things by their numbers.
type model struct {
	things map[int]made
	made   int
}

// replaces tells whether a property of that name replaces a Disk or a Net.
func replaces(name string) bool { return name == "Kind" || name == "Range" }

// turned tells whether some property that replaces is not in both lists with the same value.
func turned(a, b givens) bool {
	lacks := func(l, m givens) bool {
		for _, g := range l {
			if replaces(g.Name) && !slices.ContainsFunc(m, func(h api.Given) bool { return g.Name == h.Name && tree.Equal(g.V, h.V) }) {
				return true
			}
		}
		return false
	}
	return lacks(a, b) || lacks(b, a)
}

// allowed are the names that a type's properties have, and their kinds.
func allowed(kind string) map[string]int8 {
	switch kind {
	case "Disk":
		return map[string]int8{"Kind": api.Text, "Size": api.Number, "Tags": api.List}
	case "Net":
		return map[string]int8{"Label": api.Text, "Range": api.Text}
	}
	return nil
}

// may tells whether a thing of a type can have the properties of acts, which are wrong by names, kinds and unknown ones alone.
func may(kind string, l givens) bool {
	has := allowed(kind)
	for _, g := range l {
		if k, ok := has[g.Name]; !ok || g.Unknown || g.V.Kind != k {
			return false
		}
	}
	return true
}

// act is a call, what the chapter says of it, and which number it names: of a create the one that it makes.
type act struct {
	name string
	call func(store.Store) (store.Store, string, api.Errno)
	want func(model) (model, api.Errno)
	of   func(model) int
}

func creating(kind string, props ...api.Given) act {
	return act{"Create " + kind + " " + said(props), func(s store.Store) (store.Store, string, api.Errno) { return store.Create(s, kind, props) }, func(m model) (model, api.Errno) {
		if allowed(kind) == nil {
			return m, api.ErrType
		}
		if !may(kind, props) {
			return m, api.ErrProp
		}
		m.made++
		m.things = maps.Clone(m.things)
		m.things[m.made] = made{kind, props}
		return m, api.OK
	}, func(m model) int { return m.made + 1 }}
}

func updating(n int, props ...api.Given) act {
	phys := "p" + strconv.Itoa(n)
	return act{"Update " + phys + " " + said(props), func(s store.Store) (store.Store, string, api.Errno) {
		s, e := store.Update(s, phys, props)
		return s, "", e
	}, func(m model) (model, api.Errno) {
		was, ok := m.things[n]
		if !ok {
			return m, api.ErrNone
		}
		if !may(was.kind, props) || turned(was.props, props) {
			return m, api.ErrProp
		}
		m.things = maps.Clone(m.things)
		m.things[n] = made{was.kind, props}
		return m, api.OK
	}, func(model) int { return n }}
}

func deleting(n int) act {
	phys := "p" + strconv.Itoa(n)
	return act{"Delete " + phys, func(s store.Store) (store.Store, string, api.Errno) {
		s, e := store.Delete(s, phys)
		return s, "", e
	}, func(m model) (model, api.Errno) {
		if _, ok := m.things[n]; !ok {
			return m, api.ErrNone
		}
		m.things = maps.Clone(m.things)
		delete(m.things, n)
		return m, api.OK
	}, func(model) int { return n }}
}

func acts() []act {
	out := []act{
		creating("Disk"), creating("Disk", text("Kind", "a"), tags("x")), creating("Net", text("Range", "r")), creating("Net", number("Size", 1)), creating("Disk", unknown("Kind")), creating("net"),
	}
	for n := range 4 {
		out = append(out, deleting(n), updating(n))
		if n == 0 || n == 3 {
			continue
		}
		out = append(out, updating(n, number("Size", 1)), updating(n, text("Kind", "a"), number("Size", 2)), updating(n, text("Label", "l"), text("Range", "r")), updating(n, unknown("Tags")))
	}
	return out
}

// stored answers m as a store.
func stored(m model) store.Store {
	s := store.Store{Made: m.made}
	for _, n := range slices.Sorted(maps.Keys(m.things)) {
		x := m.things[n]
		s.L = append(s.L, thing("p"+strconv.Itoa(n), x.kind, x.props...))
	}
	return s
}

// follow does each act on s, wants what the chapter says, and goes on from there.
func follow(t *testing.T, as []act, s store.Store, m model, left int) {
	for _, a := range as {
		got, phys, e := a.call(s)
		after, f := a.want(m)
		if e != f || e != api.OK && (!zero(got) || phys != "") {
			t.Errorf("%s on %v: %v, %q, %d; not %d", a.name, s, got, phys, e, f)
			continue
		}
		if e != api.OK {
			continue
		}
		if !store.Same(got, stored(after)) || store.Check(got) != api.OK || after.made > m.made != (phys != "") {
			t.Errorf("%s on %v: %v, %q, not %v", a.name, s, got, phys, stored(after))
		}
		stays(t, a.name, s, got, a.of(m))
		if left > 1 {
			follow(t, as, got, after, left-1)
		}
	}
	if !store.Same(s, stored(m)) {
		t.Errorf("%v is changed: %v", stored(m), s)
	}
}

// stays wants all things of s but that of a number to be in got, and none else (P10.3).
func stays(t *testing.T, name string, s, got store.Store, n int) {
	named := "p" + strconv.Itoa(n)
	for _, c := range [][2]store.Store{{s, got}, {got, s}} {
		for _, x := range c[0].L {
			y, ok := store.Get(c[1], x.Phys)
			if x.Phys != named && (!ok || !store.Same(of(1, x), of(1, y))) {
				t.Errorf("%s on %v: %v", name, s, got)
			}
		}
	}
}

// P10.2, P10.3: all rows of up to four acts, held against a second reading of the chapter.
func TestAll(t *testing.T) {
	follow(t, acts(), store.Store{}, model{things: map[int]made{}}, 4)
}

// P10.2, P10.3: a long row of acts on one store; no id is given twice.
func TestLong(t *testing.T) {
	as := acts()
	for n := 4; n < 30; n++ {
		as = append(as, deleting(n), updating(n, number("Size", n)))
	}
	given := map[string]int{}
	s, m := store.Store{}, model{things: map[int]made{}}
	pick := uint64(1)
	for range 20_000 {
		if m.made > 25 {
			s, m = store.Store{}, model{things: map[int]made{}}
			clear(given)
		}
		pick = pick*6364136223846793005 + 1442695040888963407
		a := as[pick>>33%uint64(len(as))]
		got, phys, e := a.call(s)
		after, f := a.want(m)
		if e != f {
			t.Fatalf("%s on %v: %d, not %d", a.name, s, e, f)
		}
		if e != api.OK {
			continue
		}
		if phys != "" {
			given[phys]++
		}
		if given[phys] > 1 || !store.Same(got, stored(after)) {
			t.Fatalf("%s on %v: %v, %q", a.name, s, got, phys)
		}
		s, m = got, after
	}
}
