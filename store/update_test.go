package store_test

import (
	"testing"

	"hoarding/api"
	"hoarding/store"
)

// update asks for other properties and wants them taken.
func update(t *testing.T, s store.Store, phys string, props ...api.Given) store.Store {
	t.Helper()
	got, e := store.Update(s, phys, props)
	if e != api.OK {
		t.Errorf("Update of %s, %v: %d", phys, props, e)
	}
	return got
}

func updates(t *testing.T, s store.Store, phys string, props givens, want api.Errno) {
	t.Helper()
	if got, e := store.Update(s, phys, props); !zero(got) || e != want {
		t.Errorf("Update of %.20q, %.100v: %v, %d; not %d", phys, props, got, e, want)
	}
}

// inPlace are for each of several's things properties that it can be given in its place: changed, given anew, left out, none where none replaces, the same.
func inPlace() map[string][]givens {
	kind, node := text("Kind", "a"), []api.Given{text("Image", "i"), text("Net", "p10")}
	return map[string][]givens{
		"p2": {
			{kind, number("Size", 2), tags("x", "y")}, {kind, number("Size", 1), tags("y", "x")}, {kind, number("Size", 0), tags()}, {kind, number("Size", 1)}, {kind, tags("x", "y")}, {kind},
			{kind, number("Size", 1), tags("x", "y")},
		},
		"p3": {{}, nil, {number("Size", 0)}, {tags()}, {tags("x")}, {number("Size", 1), tags("x", "y")}},
		"p9": {
			append(givens{number("Count", 2), text("Disk", "p3")}, node...), append(givens{number("Count", 1)}, node...), append(givens{text("Disk", "")}, node...), node,
			append(givens{number("Count", 1), text("Disk", "p2")}, node...),
		},
		"p10": {{text("Label", ""), text("Range", "r")}, {text("Label", "m"), text("Range", "r")}, {text("Range", "r")}, {text("Label", "l"), text("Range", "r")}},
		"p11": {{text("Node", "p1"), number("Port", 80)}, {number("Port", 80)}, {text("Node", "p9"), number("Port", 80)}},
	}
}

// replacing are for each of several's things properties that would replace it: changed, given anew, left out, beside others that change in place, too.
func replacing() map[string][]givens {
	return map[string][]givens{
		"p2": {
			{text("Kind", "b"), number("Size", 1), tags("x", "y")}, {text("Kind", ""), number("Size", 2)}, {text("Kind", "aa")}, {number("Size", 1), tags("x", "y")}, {number("Size", 2)}, {}, nil,
		},
		"p3": {{text("Kind", "")}, {text("Kind", "a")}, {text("Kind", "a"), number("Size", 1), tags("x")}},
		"p9": {
			{number("Count", 1), text("Disk", "p2"), text("Image", "j"), text("Net", "p10")}, {number("Count", 1), text("Disk", "p2"), text("Image", "i"), text("Net", "p11")}, {number("Count", 1), text("Disk", "p2"), text("Image", "i")},
			{number("Count", 1), text("Disk", "p2"), text("Net", "p10")}, {number("Count", 2)}, nil,
		},
		"p10": {{text("Label", "l"), text("Range", "s")}, {text("Label", "l")}, {text("Range", "")}, {}},
		"p11": {{text("Node", "p9"), number("Port", 81)}, {text("Node", "p9")}, {number("Port", 0)}, nil},
	}
}

// with answers several's things, one of which has other properties.
func with(phys string, props givens) store.Store {
	s := several()
	for i, x := range s.L {
		if x.Phys == phys {
			s.L[i].Props = props
		}
	}
	return s
}

// P10.2, P10.3: properties are just those that are given; all others stay, and Made; and an Update back leaves all as it was.
func TestUpdate(t *testing.T) {
	for phys, rows := range inPlace() {
		for _, props := range rows {
			s := update(t, several(), phys, props...)
			sames(t, s, with(phys, props), true)
			if e := store.Check(s); e != api.OK {
				t.Errorf("%s, %v: then Check: %d", phys, props, e)
			}
			was, _ := store.Get(several(), phys)
			sames(t, update(t, s, phys, was.Props...), several(), true)
			for _, more := range rows {
				sames(t, update(t, s, phys, more...), with(phys, more), true)
			}
		}
	}
}

// P10.2: properties that would replace it.
func TestUpdateReplaces(t *testing.T) {
	for phys, rows := range replacing() {
		for _, props := range rows {
			updates(t, several(), phys, props, api.ErrProp)
			for _, more := range inPlace()[phys] {
				updates(t, with(phys, more), phys, props, api.ErrProp)
			}
		}
	}
}

// P10.2: each property that its type has not, or that may not be; unknown ones, in place or not.
func TestUpdateRefuses(t *testing.T) {
	for _, phys := range []string{"p2", "p3"} {
		for _, l := range append(bads(), unknowns()...) {
			updates(t, several(), phys, l, api.ErrProp)
		}
	}
	s := several()
	for _, x := range s.L {
		for _, other := range s.L {
			if other.Type != x.Type {
				updates(t, s, x.Phys, other.Props, api.ErrProp)
			}
		}
		for i, g := range x.Props {
			l := clones(x.Props)
			l[i] = unknown(g.Name)
			updates(t, s, x.Phys, l, api.ErrProp)
		}
	}
	updates(t, s, "p9", givens{unknown("Disk"), text("Image", "i"), text("Net", "p10")}, api.ErrProp)
	updates(t, s, "p11", givens{unknown("Node"), number("Port", 80)}, api.ErrProp)
}

// absent are ids that none of several's things has.
var absent = []string{"", "p", "2", "p0", "p1", "p4", "p02", "p12", "p13", "p-2", "p+2", "p2 ", "P2", "p1099511627777", "p99999999999999999999"}

// P10.2: a thing that is not there, ahead of what is wrong with the properties.
func TestUpdateNone(t *testing.T) {
	for _, phys := range absent {
		for _, l := range append(bads(), nil, givens{number("Size", 1)}, givens{unknown("Kind")}) {
			updates(t, several(), phys, l, api.ErrNone)
			updates(t, store.Store{}, phys, l, api.ErrNone)
			updates(t, of(most), phys, l, api.ErrNone)
		}
	}
	s := remove(t, several(), "p3")
	updates(t, s, "p3", nil, api.ErrNone)
	updates(t, s, "p3", givens{{}}, api.ErrNone)
}

// P10.2, R2: a store that may not be, ahead of all else.
func TestUpdateOnWrong(t *testing.T) {
	for _, s := range wrongs() {
		for _, phys := range []string{"p1", "p2", "p7", "", "p"} {
			for _, l := range []givens{nil, {number("Size", 1)}, {unknown("Kind")}, {{}}} {
				updates(t, s, phys, l, api.ErrArg)
			}
		}
	}
}

// P10.2: values that are equal are not changed, though they are not the same field by field; what is given is what it has then.
func TestUpdateEqual(t *testing.T) {
	hollow := text("Kind", "a")
	hollow.V.List, hollow.V.Keys = []api.Value{}, []string{}
	s := update(t, several(), "p2", hollow)
	sames(t, s, with("p2", givens{text("Kind", "a")}), true)
	sames(t, update(t, s, "p2", text("Kind", "a"), number("Size", 3)), with("p2", givens{text("Kind", "a"), number("Size", 3)}), true)
}
