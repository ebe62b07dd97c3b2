package store_test

import (
	"testing"

	"hoarding/api"
	"hoarding/store"
)

// goods are stores that may be.
func goods() map[string]store.Store {
	return map[string]store.Store{
		"nothing":            {},
		"a list of nothing":  {L: []api.Thing{}},
		"all gone":           of(7),
		"all gone, Made all": of(most),
		"p1":                 of(1, thing("p1", "Disk")),
		"p1 of 2":            of(2, thing("p1", "Disk")),
		"p2 of 2":            of(2, thing("p2", "Disk")),
		"p9, p10":            of(10, thing("p9", "Disk"), thing("p10", "Net")),
		"p2, p10":            of(10, thing("p2", "Disk"), thing("p10", "Disk")),
		"p99, p100":          of(100, thing("p99", "Disk"), thing("p100", "Net")),
		"the greatest":       of(most, thing("p1", "Disk"), thing("p1099511627775", "Disk"), thing("p1099511627776", "Disk")),
		"several":            several(),
		"a list of no props": of(1, api.Thing{Phys: "p1", Type: "Net", Props: givens{}}),
		"hollow values":      of(1, thing("p1", "Disk", api.Given{Name: "Size", V: api.Value{Kind: api.Number, List: []api.Value{}, Keys: []string{}}})),
		"tags":               of(1, thing("p1", "Disk", tags("", "a", "", "", "", "", "", "b"))),
	}
}

// P10.1: stores that may be.
func TestCheck(t *testing.T) {
	for name, s := range goods() {
		if e := store.Check(s); e != api.OK {
			t.Errorf("%s: %d", name, e)
		}
	}
}

// P10.1: stores that may not be.
func TestCheckRefuses(t *testing.T) {
	for name, s := range wrongs() {
		if e := store.Check(s); e != api.ErrArg {
			t.Errorf("%s: %d", name, e)
		}
	}
}

// P10.1: each type with the properties that another one has, and with its own.
func TestCheckProperties(t *testing.T) {
	has := map[string]givens{
		"Disk": {text("Kind", ""), number("Size", -1), tags()},
		"Net":  {text("Label", ""), text("Range", "")},
		"Node": {number("Count", 0), text("Disk", ""), text("Image", ""), text("Net", "")},
		"Rule": {text("Node", ""), number("Port", 0)},
	}
	for _, kind := range kinds {
		for _, other := range kinds {
			want := api.OK
			if kind != other {
				want = api.ErrArg
			}
			if e := store.Check(of(1, thing("p1", kind, has[other]...))); e != want {
				t.Errorf("a %s with properties of %s: %d", kind, other, e)
			}
			for _, g := range has[other] {
				if e := store.Check(of(3, thing("p1", other, g), thing("p3", kind, g))); e != want {
					t.Errorf("a %s with %s of %s: %d", kind, g.Name, other, e)
				}
			}
		}
	}
}
