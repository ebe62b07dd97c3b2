package cloud_test

import (
	"slices"
	"strconv"
	"testing"

	"hoarding/api"
	"hoarding/cloud"
)

// R1, P11.1 to P11.3: a cloud that is not there.
func TestNil(t *testing.T) {
	var c *cloud.Cloud
	for _, x := range append(goods(), api.Call{}, api.Call{Token: -1, Kind: 9, Phys: "p", Props: unknowns()[0]}) {
		for _, token := range []int{x.Token, 1, greatest} {
			x.Token = token
			if e := c.Submit(x); e != api.ErrNil {
				t.Errorf("Submit: %d", e)
			}
		}
	}
	for _, k := range []int{-1, 0, 1, greatest, -greatest - 1} {
		for _, goes := range []bool{true, false} {
			if token, a, e := c.End(k, goes); token != 0 || a != (api.Answer{}) || e != api.ErrNil {
				t.Errorf("End: %d, %v, %d", token, a, e)
			}
		}
		if a, ok := c.Ask(k); a != (api.Answer{}) || ok {
			t.Errorf("Ask: %v, %t", a, ok)
		}
	}
	for _, phys := range []string{"", "p", "p1", "\xff"} {
		if x, ok := c.Get(phys); !sameThing(x, api.Thing{}) || ok {
			t.Errorf("Get: %v, %t", x, ok)
		}
	}
	flies(t, c)
	has(t, c, 0)
	called(t, c)
}

// R1: a cloud that nothing made is as a new one; a new one is there, each for itself.
func TestNew(t *testing.T) {
	one, other := cloud.New(), cloud.New()
	for _, c := range []*cloud.Cloud{one, other, {}, new(cloud.Cloud)} {
		if c == nil {
			t.Fatal("New is nil")
		}
		flies(t, c)
		has(t, c, 0)
		called(t, c)
		endsNone(t, c, 0)
		if a, ok := c.Ask(1); a != (api.Answer{}) || ok {
			t.Errorf("Ask: %v, %t", a, ok)
		}
		does(t, c, creating(1, "Disk"), well("p1"))
		has(t, c, 1, thing("p1", "Disk"))
		flies(t, c)
		called(t, c, creating(1, "Disk"))
	}
}

// P11.3: all that is there, as it goes along.
func TestThings(t *testing.T) {
	c := stocked(t)
	has(t, c, 4, stock()...)
	flies(t, c)
	called(t, c, creating(1, "Disk", full()...), creating(2, "Net", text("Range", "r")), creating(3, "Node", text("Disk", "p1"), text("Image", "i")), deleting(4, "p2"), creating(5, "Rule"))
	for _, phys := range []string{"", "p", "p01", "P1", "p1 ", " p1", "1", "p2", "p5", "p-1", "\xff", "Disk"} {
		if x, ok := c.Get(phys); !sameThing(x, api.Thing{}) || ok {
			t.Errorf("Get of %q: %v, %t", phys, x, ok)
		}
	}
}

// P11.3: things stand in the order of their ids' numbers, not of the ids as texts; Made counts what went, too.
func TestThingsMany(t *testing.T) {
	c, want := cloud.New(), []api.Thing{}
	for n := 1; n <= 120; n++ {
		phys := "p" + strconv.Itoa(n)
		does(t, c, creating(1000-n, "Rule", number("Port", n)), well(phys))
		want = append(want, thing(phys, "Rule", number("Port", n)))
	}
	has(t, c, 120, want...)
	for n := 120; n > 0; n -= 7 {
		does(t, c, deleting(2000-n, "p"+strconv.Itoa(n)), well(""))
		want = slices.Delete(want, n-1, n)
		has(t, c, 120, want...)
	}
	does(t, c, creating(1, "Net"), well("p121"))
	has(t, c, 121, append(want, thing("p121", "Net"))...)
}

// P11.3: a create that ended badly, or is in flight, or was refused, is not made.
func TestMade(t *testing.T) {
	c := cloud.New()
	submit(t, c, creating(1, "Net"), creating(2, "Net"), creating(3, "Net"))
	refuses(t, c, creating(4, "net"), api.ErrType)
	has(t, c, 0)
	ends(t, c, 1, false, 2, badly)
	has(t, c, 0)
	ends(t, c, 0, true, 1, well("p1"))
	has(t, c, 1, thing("p1", "Net"))
	does(t, c, deleting(5, "p1"), well(""))
	has(t, c, 1)
	ends(t, c, 0, true, 3, well("p2"))
	has(t, c, 2, thing("p2", "Net"))
}

// P11.3: calls are told as they were submitted, in that order, whatever their tokens and however they ended; what was refused, and what was submitted again, is not.
func TestCalls(t *testing.T) {
	c, all := cloud.New(), []api.Call{}
	for _, token := range []int{9, 3, 7, greatest, 1, 8} {
		x := updating(token, "p"+strconv.Itoa(token), "Disk", number("Size", token%100), tags("x", strconv.Itoa(token)))
		all = append(all, x)
		submit(t, c, x, creating(3, "Rule"))
		all = all[:len(all):len(all)]
		if token == 9 {
			all = append(all, creating(3, "Rule"))
			submit(t, c, deleting(9, "p1"))
		} else if token == 3 {
			all = all[:len(all)-1]
		}
		refuses(t, c, deleting(token+100, ""), api.ErrArg)
		called(t, c, all...)
	}
	flies(t, c, 9, 3, 7, greatest, 1, 8)
	for _, token := range []int{8, 3, 9, greatest, 7, 1} {
		k := slices.Index(c.Flight(), token)
		want := badly
		if token == 3 {
			want = well("p1")
		}
		ends(t, c, k, true, token, want)
		called(t, c, all...)
	}
}
