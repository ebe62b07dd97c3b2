package store_test

import (
	"strconv"
	"strings"
	"testing"

	"hoarding/api"
	"hoarding/store"
)

// create asks for a thing and wants it made.
func create(t *testing.T, s store.Store, kind string, props ...api.Given) (store.Store, string) {
	t.Helper()
	got, phys, e := store.Create(s, kind, props)
	if e != api.OK {
		t.Errorf("Create of %s, %v: %d", kind, props, e)
	}
	return got, phys
}

func creates(t *testing.T, s store.Store, kind string, props givens, want api.Errno) {
	t.Helper()
	if got, phys, e := store.Create(s, kind, props); !zero(got) || phys != "" || e != want {
		t.Errorf("Create of %.20q, %.100v at %d made: %v, %q, %d; not %d", kind, props, s.Made, got, phys, e, want)
	}
}

// P10.2: the chapter's examples.
func TestExamples(t *testing.T) {
	s, phys := create(t, store.Store{}, "Disk", number("Size", 1))
	if phys != "p1" {
		t.Errorf("%q", phys)
	}
	sames(t, s, of(1, thing("p1", "Disk", number("Size", 1))), true)
	s = remove(t, s, "p1")
	sames(t, s, of(1), true)
	s, phys = create(t, s, "Net")
	if phys != "p2" {
		t.Errorf("%q", phys)
	}
	sames(t, s, of(2, thing("p2", "Net")), true)
}

// P10.2, P10.3: a thing more, of the next number; all others stay.
func TestCreate(t *testing.T) {
	for name, s := range goods() {
		if s.Made == most {
			continue
		}
		for _, want := range several().L {
			got, phys := create(t, s, want.Type, want.Props...)
			if phys != "p"+strconv.Itoa(s.Made+1) {
				t.Errorf("%s: %q", name, phys)
			}
			want.Phys = phys
			sames(t, got, store.Store{L: append(copied(s).L, want), Made: s.Made + 1}, true)
			if e := store.Check(got); e != api.OK {
				t.Errorf("%s: then Check: %d", name, e)
			}
			// P10.3: a delete at once leaves all but Made as it was.
			sames(t, remove(t, got, phys), store.Store{L: s.L, Made: s.Made + 1}, true)
		}
	}
}

// P10.2, P10.3: a number is not given again, though the last thing is gone, or all are.
func TestCreateBehindDelete(t *testing.T) {
	s := several()
	for n := 13; n < 113; n++ {
		want := "p" + strconv.Itoa(n)
		made, phys := create(t, s, "Rule", number("Port", n))
		if phys != want {
			t.Errorf("%q, not %s", phys, want)
		}
		s = remove(t, made, phys)
		sames(t, s, of(n, several().L...), true)
	}
	for _, x := range several().L {
		s = remove(t, s, x.Phys)
	}
	sames(t, s, of(112), true)
	s, phys := create(t, s, "Net")
	if phys != "p113" || len(s.L) != 1 {
		t.Errorf("%q, %v", phys, s)
	}
}

// P10.2: the last number, and none behind it.
func TestCreateLast(t *testing.T) {
	for _, l := range [][]api.Thing{nil, several().L} {
		s, phys := create(t, of(most-1, l...), "Net", text("Label", "m"))
		if phys != "p1099511627776" {
			t.Errorf("%q", phys)
		}
		sames(t, s, of(most, append(copied(of(0, l...)).L, thing("p1099511627776", "Net", text("Label", "m")))...), true)
		creates(t, s, "Net", nil, api.ErrLong)
		s = remove(t, s, phys)
		creates(t, s, "Net", nil, api.ErrLong)
		creates(t, s, "Net", givens{text("Label", "m"), text("Range", "")}, api.ErrLong)
		sames(t, s, of(most, l...), true)
	}
	s, phys := create(t, of(most-2), "Net")
	s, next := create(t, s, "Net")
	if phys != "p1099511627775" || next != "p1099511627776" {
		t.Errorf("%q, %q", phys, next)
	}
	creates(t, s, "Net", nil, api.ErrLong)
}

// P10.2: types that are none, properties that may not be, unknown ones: ahead of a number too great.
func TestCreateRefuses(t *testing.T) {
	for _, s := range []store.Store{{}, several(), of(most - 1), of(most), of(most, several().L...)} {
		for _, kind := range none {
			creates(t, s, kind, nil, api.ErrType)
			for _, l := range append(bads(), unknowns()...) {
				creates(t, s, kind, l, api.ErrType)
			}
		}
		for _, l := range append(bads(), unknowns()...) {
			creates(t, s, "Disk", l, api.ErrProp)
		}
		creates(t, s, "Net", givens{text("Label", "l"), unknown("Range")}, api.ErrProp)
		creates(t, s, "Rule", givens{unknown("Port")}, api.ErrProp)
		creates(t, s, "Rule", givens{number("Port", 1), text("Node", "p1")}, api.ErrProp)
		creates(t, s, "Node", givens{tags("x")}, api.ErrProp)
	}
}

// P10.2, R2: a store that may not be, ahead of all else.
func TestCreateOnWrong(t *testing.T) {
	for _, s := range wrongs() {
		for _, kind := range []string{"Disk", "Net", "", "disk"} {
			for _, l := range []givens{nil, {number("Size", 1)}, {unknown("Kind")}, {{}}} {
				creates(t, s, kind, l, api.ErrArg)
			}
		}
	}
}

// P10.2: properties at their limits.
func TestCreateGreat(t *testing.T) {
	word := strings.Repeat("w", api.MaxWord)
	l := givens{text("Kind", word), number("Size", -api.MaxNumber), tags(word, word, word, word, word, word, word, word)}
	s, phys := create(t, several(), "Disk", l...)
	gets(t, s, phys, &api.Thing{Phys: "p13", Type: "Disk", Props: l})
}
