package store_test

import (
	"slices"
	"strconv"
	"strings"

	"hoarding/api"
	"hoarding/store"
	"hoarding/tree"
)

const most = 1 << 40

type givens = []api.Given

func number(name string, n int) api.Given { return api.Given{Name: name, V: tree.Num(n)} }

func text(name, s string) api.Given { return api.Given{Name: name, V: tree.Text(s)} }

// tags are a list of texts.
func tags(l ...string) api.Given {
	v := api.Value{Kind: api.List}
	for _, s := range l {
		v.List = append(v.List, tree.Text(s))
	}
	return api.Given{Name: "Tags", V: v}
}

func unknown(name string) api.Given { return api.Given{Name: name, Unknown: true} }

func thing(phys, kind string, props ...api.Given) api.Thing {
	return api.Thing{Phys: phys, Type: kind, Props: props}
}

func of(made int, l ...api.Thing) store.Store { return store.Store{L: l, Made: made} }

// several are things of all types; others that were made are gone.
func several() store.Store {
	return of(12,
		thing("p2", "Disk", text("Kind", "a"), number("Size", 1), tags("x", "y")),
		thing("p3", "Disk"),
		thing("p9", "Node", number("Count", 1), text("Disk", "p2"), text("Image", "i"), text("Net", "p10")),
		thing("p10", "Net", text("Label", "l"), text("Range", "r")),
		thing("p11", "Rule", text("Node", "p9"), number("Port", 80)))
}

var kinds = []string{"Disk", "Net", "Node", "Rule"}

// none are types that are none.
var none = []string{"", "disk", "Disk ", "Dis", "Disks", "Size", "\xff", strings.Repeat("Disk", 10000)}

// bads are properties that none of the types may have, or that a Disk may not.
func bads() []givens {
	return []givens{
		{{}}, {number("size", 1)}, {text("Size", "a")}, {number("Kind", 1)}, {text("Kind", "\xff")}, {text("Kind", strings.Repeat("w", api.MaxWord+1))},
		{number("Size", api.MaxNumber+1)}, {number("Size", 1), text("Kind", "a")}, {number("Size", 1), number("Size", 1)}, {text("Label", "l")}, {{Name: "Tags"}},
		{tags(slices.Repeat([]string{"x"}, api.MaxList+1)...)}, {text("Kind", "a"), tags("\xff")}, {{Name: "Kind", Unknown: true, V: tree.Text("a")}}, {unknown("Size")},
	}
}

// unknowns are properties that a Disk may have, but which are not known, at least one.
func unknowns() []givens {
	return []givens{
		{unknown("Kind")}, {unknown("Tags")}, {unknown("Kind"), unknown("Tags")}, {unknown("Kind"), number("Size", 1), tags("x")}, {text("Kind", "a"), number("Size", 1), unknown("Tags")},
	}
}

// wrongs are stores that may not be.
func wrongs() map[string]store.Store {
	out := map[string]store.Store{
		"Made -1":           of(-1),
		"Made least":        of(-1 << 63),
		"Made one more":     of(most + 1),
		"Made greatest":     of(1<<63 - 1),
		"Made one more, p1": of(most+1, thing("p1", "Disk")),
		"Made below 0, p1":  of(-1, thing("p1", "Disk")),
		"p2, p1":            of(2, thing("p2", "Disk"), thing("p1", "Disk")),
		"p10, p9":           of(12, thing("p10", "Disk"), thing("p9", "Disk")),
		"p10, p2":           of(12, thing("p10", "Disk"), thing("p2", "Disk")),
		"p1, p3, p2":        of(3, thing("p1", "Disk"), thing("p3", "Disk"), thing("p2", "Disk")),
		"p1 twice":          of(2, thing("p1", "Disk"), thing("p1", "Disk")),
		"p1 twice, unlike":  of(2, thing("p1", "Disk"), thing("p1", "Net")),
		"p2 twice":          of(3, thing("p1", "Disk"), thing("p2", "Disk"), thing("p2", "Disk")),
		"p1 of none":        of(0, thing("p1", "Disk")),
		"p3 of 2":           of(2, thing("p1", "Disk"), thing("p3", "Disk")),
		"one more":          of(most, thing("p1099511627777", "Disk")),
		"unknown":           of(1, thing("p1", "Disk", unknown("Kind"))),
		"unknown behind":    of(2, thing("p1", "Disk"), thing("p2", "Net", text("Label", "l"), unknown("Range"))),
		"bad ahead":         of(2, thing("p1", "Disk", number("Port", 1)), thing("p2", "Disk")),
	}
	for _, phys := range []string{"", "p", "1", "p0", "p01", "p-1", "p+1", "P1", " p1", "p1 ", "pp1", "p1x", "q1", "p99999999999999999999"} {
		out["id "+phys] = of(5, thing(phys, "Disk"))
		out["id behind "+phys] = of(5, thing("p1", "Disk"), thing(phys, "Disk"))
	}
	for _, kind := range none {
		out["type "+kind[:min(len(kind), 9)]] = of(2, thing("p1", "Net"), thing("p2", kind))
	}
	for i, l := range append(bads(), unknowns()...) {
		out["properties "+strconv.Itoa(i)] = of(2, thing("p1", "Disk", l...), thing("p2", "Disk"))
	}
	return out
}

// said names properties in a few words.
func said(l givens) (s string) {
	for _, g := range l {
		s += g.Name + " " + g.V.Text[:min(len(g.V.Text), 5)] + "; "
	}
	return s
}

func clone(v api.Value) api.Value {
	v.List, v.Keys = slices.Clone(v.List), slices.Clone(v.Keys)
	for i, part := range v.List {
		v.List[i] = clone(part)
	}
	return v
}

func clones(l givens) givens {
	l = slices.Clone(l)
	for i, g := range l {
		l[i].V = clone(g.V)
	}
	return l
}

// copied answers s in memory of its own.
func copied(s store.Store) store.Store {
	s.L = slices.Clone(s.L)
	for i, x := range s.L {
		s.L[i].Props = clones(x.Props)
	}
	return s
}

// zero tells whether s is zero, its list of nothing or none.
func zero(s store.Store) bool { return s.Made == 0 && len(s.L) == 0 }
