package cloud_test

import (
	"testing"

	"hoarding/api"
	"hoarding/cloud"
)

// endsNone wants no call to be there, and nothing to come of it.
func endsNone(t *testing.T, c *cloud.Cloud, k int) {
	t.Helper()
	flight := c.Flight()
	for _, goes := range []bool{true, false} {
		if token, a, e := c.End(k, goes); token != 0 || a != (api.Answer{}) || e != api.ErrNone {
			t.Errorf("End of %d, %t: %d, %v, %d", k, goes, token, a, e)
		}
	}
	flies(t, c, flight...)
}

// P11.1, P11.4: the chapter's example.
func TestExample(t *testing.T) {
	c := cloud.New()
	submit(t, c, creating(1, "Disk"), creating(1, "Disk"))
	ends(t, c, 0, true, 1, well("p1"))
	has(t, c, 1, thing("p1", "Disk"))
	endsNone(t, c, 0)
	has(t, c, 1, thing("p1", "Disk"))
}

// P11.2: places where no call is in flight.
func TestEndNone(t *testing.T) {
	for _, c := range []*cloud.Cloud{cloud.New(), stocked(t), {}} {
		things := c.Things()
		for n := range 4 {
			for _, k := range []int{-1, -2, n, n + 1, 1 << 32, greatest, -greatest - 1} {
				endsNone(t, c, k)
			}
			submit(t, c, deleting(10+n, "p1"))
		}
		has(t, c, c.Made(), things...)
		for n := 4; n > 0; n-- {
			ends(t, c, n-1, false, 9+n, badly)
			endsNone(t, c, n-1)
			endsNone(t, c, -1)
		}
		endsNone(t, c, 0)
	}
}

// P11.2: any one of those in flight ends; the others go on in their order, and new ones come behind them.
func TestEndPlaces(t *testing.T) {
	for n := 1; n <= 5; n++ {
		for k := range n {
			for _, goes := range []bool{true, false} {
				c, left := cloud.New(), []int{}
				for i := range n {
					submit(t, c, creating(20-i, "Rule", number("Port", i)))
					if i != k {
						left = append(left, 20-i)
					}
				}
				want := badly
				if goes {
					want = well("p1")
				}
				ends(t, c, k, goes, 20-k, want)
				flies(t, c, left...)
				for _, token := range left {
					asks(t, c, token, api.Answer{})
				}
				if goes {
					has(t, c, 1, thing("p1", "Rule", number("Port", k)))
				} else {
					has(t, c, 0)
				}
				submit(t, c, deleting(30, "p1"), creating(3, "Net"))
				flies(t, c, append(left, 30, 3)...)
			}
		}
	}
}

// P11.2: things are numbered in the order in which their creates end well, not in which they were submitted.
func TestEndCreates(t *testing.T) {
	c := cloud.New()
	submit(t, c, creating(1, "Disk"), creating(2, "Net"), creating(3, "Node"), creating(4, "Rule"))
	ends(t, c, 2, true, 3, well("p1"))
	ends(t, c, 0, false, 1, badly)
	ends(t, c, 1, true, 4, well("p2"))
	flies(t, c, 2)
	ends(t, c, 0, true, 2, well("p3"))
	has(t, c, 3, thing("p1", "Node"), thing("p2", "Rule"), thing("p3", "Net"))
}

// P11.2: an update's properties are all that the thing has then.
func TestEndUpdate(t *testing.T) {
	for _, l := range []givens{full(), {text("Kind", "a")}, {text("Kind", "a"), number("Size", 9)}, {text("Kind", "a"), tags()}} {
		c := stocked(t)
		submit(t, c, updating(9, "p1", "Disk", l...))
		has(t, c, 4, stock()...)
		ends(t, c, 0, true, 9, well(""))
		want := stock()
		want[0].Props = l
		has(t, c, 4, want...)
	}
}

// P11.2: a delete takes a thing away, for good; Made stays.
func TestEndDelete(t *testing.T) {
	for i, x := range stock() {
		c := stocked(t)
		submit(t, c, deleting(9, x.Phys))
		has(t, c, 4, stock()...)
		ends(t, c, 0, true, 9, well(""))
		want := stock()
		has(t, c, 4, append(want[:i], want[i+1:]...)...)
		does(t, c, deleting(10, x.Phys), badly)
		does(t, c, creating(11, "Net"), well("p5"))
		has(t, c, 5, append(want[:2], thing("p5", "Net"))...)
	}
}

// P11.2: what ends badly has no effect, of any kind.
func TestEndBadly(t *testing.T) {
	c := stocked(t)
	for i, x := range []api.Call{creating(0, "Disk"), creating(0, "Net", text("Label", "l")), updating(0, "p1", "Disk", text("Kind", "a")), deleting(0, "p1"), deleting(0, "p4"), deleting(0, "nothing")} {
		x.Token = 10 + i
		submit(t, c, x)
		ends(t, c, 0, false, x.Token, badly)
		has(t, c, 4, stock()...)
	}
	does(t, c, creating(30, "Net"), well("p5"))
}

// refused are calls that the store does not take from stocked: their thing is not there, is another one than they say, or would be replaced.
func refused() []api.Call {
	return []api.Call{
		updating(0, "p2", "Net"), updating(0, "p2", "Net", text("Range", "r")), updating(0, "p5", "Disk"), updating(0, "p0", "Disk"), updating(0, "p01", "Disk", full()...), updating(0, "P1", "Disk", full()...),
		updating(0, "nothing", "Node"), deleting(0, "p2"), deleting(0, "p5"), deleting(0, "p"), deleting(0, "p01"), deleting(0, "p1 "), deleting(0, "\xff"),
		updating(0, "p1", "Net", text("Label", "l")), updating(0, "p3", "Disk", number("Size", 1)), updating(0, "p3", "Disk"), updating(0, "p4", "Node", text("Image", "i")), updating(0, "p4", "Disk", full()...),
		updating(0, "p1", "Disk"), updating(0, "p1", "Disk", text("Kind", "b")), updating(0, "p1", "Disk", number("Size", 1), tags("x", "y")), updating(0, "p3", "Node", text("Disk", "p1"), text("Image", "i"), text("Net", "p2")),
		updating(0, "p3", "Node", text("Disk", "p1")), updating(0, "p4", "Rule", number("Port", 1)),
	}
}

// P11.2: where the store answers an error, a call that goes well ends badly, and has no effect.
func TestEndRefused(t *testing.T) {
	all := stocked(t)
	for i, x := range refused() {
		x.Token = 10 + i
		for _, c := range []*cloud.Cloud{all, stocked(t)} {
			does(t, c, x, badly)
			has(t, c, 4, stock()...)
		}
		refuses(t, all, x, api.OK)
		asks(t, all, x.Token, badly)
	}
	does(t, all, creating(100, "Net"), well("p5"))
}

// P11.2: an update's effect is the store's, which goes by the thing's own type: of none of the properties that types do not share nothing is left to be wrong.
func TestEndOtherType(t *testing.T) {
	c := stocked(t)
	does(t, c, updating(9, "p4", "Net"), well(""))
	has(t, c, 4, stock()...)
	does(t, c, updating(10, "p4", "Rule", text("Node", "n")), well(""))
	does(t, c, updating(11, "p4", "Net"), well(""))
	has(t, c, 4, stock()...)
}

// P11.2: two deletes of one thing in flight: the one that ends well first takes it away.
func TestTwoDeletes(t *testing.T) {
	for first := range 2 {
		c := stocked(t)
		submit(t, c, deleting(8, "p1"), deleting(9, "p1"))
		ends(t, c, first, true, 8+first, well(""))
		has(t, c, 4, stock()[1:]...)
		ends(t, c, 0, true, 9-first, badly)
		has(t, c, 4, stock()[1:]...)
		asks(t, c, 8+first, well(""))

		c = stocked(t)
		submit(t, c, deleting(8, "p1"), deleting(9, "p1"))
		ends(t, c, first, false, 8+first, badly)
		has(t, c, 4, stock()...)
		ends(t, c, 0, true, 9-first, well(""))
		has(t, c, 4, stock()[1:]...)
	}
}

// P11.2, P11.4: two updates of one thing: the last that ends well counts, whichever was submitted last.
func TestTwoUpdates(t *testing.T) {
	of := func(n int) givens { return givens{text("Kind", "a"), number("Size", n)} }
	for first := range 2 {
		for _, goes := range []bool{true, false} {
			c := stocked(t)
			submit(t, c, updating(10, "p1", "Disk", of(10)...), updating(11, "p1", "Disk", of(11)...))
			ends(t, c, first, true, 10+first, well(""))
			want := stock()
			want[0].Props = of(10 + first)
			has(t, c, 4, want...)
			if !goes {
				ends(t, c, 0, false, 11-first, badly)
				has(t, c, 4, want...)
				continue
			}
			ends(t, c, 0, true, 11-first, well(""))
			want[0].Props = of(11 - first)
			has(t, c, 4, want...)
		}
	}
}

// P11.2: a thing that goes while an update of it is in flight; one that comes while an update, a delete of it is.
func TestEndBehind(t *testing.T) {
	c := stocked(t)
	submit(t, c, updating(8, "p1", "Disk", text("Kind", "a")), deleting(9, "p1"))
	ends(t, c, 1, true, 9, well(""))
	ends(t, c, 0, true, 8, badly)
	has(t, c, 4, stock()[1:]...)
	submit(t, c, deleting(10, "p5"), updating(11, "p5", "Net", text("Label", "l")), creating(12, "Net"))
	ends(t, c, 2, true, 12, well("p5"))
	ends(t, c, 1, true, 11, well(""))
	has(t, c, 5, append(stock()[1:], thing("p5", "Net", text("Label", "l")))...)
	ends(t, c, 0, true, 10, well(""))
	has(t, c, 5, stock()[1:]...)
}

// P11.2: tokens that never were, in flight, ended; the answers stand, whatever ends behind them.
func TestAsk(t *testing.T) {
	c := cloud.New()
	never := func(tokens ...int) {
		t.Helper()
		for _, token := range append(tokens, 0, -1, 7, greatest, -greatest-1) {
			if a, ok := c.Ask(token); a != (api.Answer{}) || ok {
				t.Errorf("Ask of %d: %v, %t", token, a, ok)
			}
		}
	}
	never(1, 2, 3, 4)
	submit(t, c, creating(2, "Disk"), creating(3, "Net"))
	never(1, 4)
	asks(t, c, 2, api.Answer{})
	asks(t, c, 3, api.Answer{})
	ends(t, c, 1, true, 3, well("p1"))
	asks(t, c, 2, api.Answer{})
	ends(t, c, 0, false, 2, badly)
	submit(t, c, updating(1, "p1", "Net", text("Label", "l")), deleting(4, "p1"), deleting(5, "p1"), creating(6, "Net"))
	ends(t, c, 0, true, 1, well(""))
	ends(t, c, 0, true, 4, well(""))
	ends(t, c, 0, true, 5, badly)
	ends(t, c, 0, true, 6, well("p2"))
	for token, want := range map[int]api.Answer{1: well(""), 2: badly, 3: well("p1"), 4: well(""), 5: badly, 6: well("p2")} {
		asks(t, c, token, want)
		asks(t, c, token, want)
	}
	never()
}
