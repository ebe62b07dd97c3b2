package store_test

import (
	"slices"
	"testing"

	"hoarding/api"
	"hoarding/store"
)

// remove asks for a thing to go and wants it gone.
func remove(t *testing.T, s store.Store, phys string) store.Store {
	t.Helper()
	got, e := store.Delete(s, phys)
	if e != api.OK {
		t.Errorf("Delete of %s: %d", phys, e)
	}
	return got
}

func removes(t *testing.T, s store.Store, phys string, want api.Errno) {
	t.Helper()
	if got, e := store.Delete(s, phys); !zero(got) || e != want {
		t.Errorf("Delete of %.20q: %v, %d; not %d", phys, got, e, want)
	}
}

// P10.2, P10.3: the first, those in the middle, the last: it is gone; all others stay, and Made.
func TestDelete(t *testing.T) {
	for _, s := range goods() {
		for i, x := range s.L {
			got := remove(t, s, x.Phys)
			sames(t, got, of(s.Made, slices.Delete(copied(s).L, i, i+1)...), true)
			if e := store.Check(got); e != api.OK {
				t.Errorf("%s: then Check: %d", x.Phys, e)
			}
			gets(t, got, x.Phys, nil)
			removes(t, got, x.Phys, api.ErrNone)
		}
	}
}

// P10.2: all things, one by one, in each of a few orders.
func TestDeleteAll(t *testing.T) {
	ids := []string{"p2", "p3", "p9", "p10", "p11"}
	for range ids {
		s := several()
		for i, phys := range ids {
			s = remove(t, s, phys)
			if len(s.L) != len(ids)-1-i {
				t.Errorf("%q at %d: %v", ids, i, s)
			}
		}
		sames(t, s, of(12), true)
		ids = append(ids[2:], ids[0], ids[1])
	}
}

// P10.2: a thing that is not there; a store that may not be ahead of it.
func TestDeleteRefuses(t *testing.T) {
	for _, phys := range absent {
		removes(t, several(), phys, api.ErrNone)
		removes(t, store.Store{}, phys, api.ErrNone)
		removes(t, of(most), phys, api.ErrNone)
		for _, s := range wrongs() {
			removes(t, s, phys, api.ErrArg)
		}
	}
	for _, s := range wrongs() {
		for _, x := range s.L {
			removes(t, s, x.Phys, api.ErrArg)
		}
	}
}
