package cloud_test

import (
	"fmt"
	"slices"
	"testing"

	"hoarding/api"
	"hoarding/cloud"
	"hoarding/schema"
	"hoarding/tree"
)

const greatest = 1<<63 - 1

type givens = []api.Given

func number(name string, n int) api.Given { return api.Given{Name: name, V: tree.Num(n)} }

func text(name, s string) api.Given { return api.Given{Name: name, V: tree.Text(s)} }

// tags are a list of texts.
func tags(l ...string) api.Given {
	v := api.Value{Kind: api.List}
	for _, s := range l {
		v.List = append(v.List, tree.Text(s))
	}
	return api.Given{Name: "Tags", V: v}
}

func unknown(name string) api.Given { return api.Given{Name: name, Unknown: true} }

func creating(token int, kind string, props ...api.Given) api.Call {
	return api.Call{Token: token, Kind: api.CallCreate, Type: kind, Props: props}
}

func updating(token int, phys, kind string, props ...api.Given) api.Call {
	return api.Call{Token: token, Kind: api.CallUpdate, Phys: phys, Type: kind, Props: props}
}

func deleting(token int, phys string) api.Call {
	return api.Call{Token: token, Kind: api.CallDelete, Phys: phys}
}

func thing(phys, kind string, props ...api.Given) api.Thing {
	return api.Thing{Phys: phys, Type: kind, Props: props}
}

// The answers that there are.
func well(phys string) api.Answer { return api.Answer{Ended: true, Ok: true, Phys: phys} }

var badly = api.Answer{Ended: true}

// submit puts calls in flight and wants them taken.
func submit(t *testing.T, c *cloud.Cloud, calls ...api.Call) {
	t.Helper()
	for _, x := range calls {
		if e := c.Submit(x); e != api.OK {
			t.Errorf("Submit of %+v: %d", x, e)
		}
	}
}

// ends ends a call and wants its token and its answer, told by Ask, too.
func ends(t *testing.T, c *cloud.Cloud, k int, goes bool, token int, want api.Answer) {
	t.Helper()
	if got, a, e := c.End(k, goes); got != token || a != want || e != api.OK {
		t.Errorf("End of %d, %t: %d, %+v, %d; not %d, %+v", k, goes, got, a, e, token, want)
	}
	asks(t, c, token, want)
}

// does submits a call, ends it well, and wants its answer.
func does(t *testing.T, c *cloud.Cloud, x api.Call, want api.Answer) {
	t.Helper()
	submit(t, c, x)
	ends(t, c, len(c.Flight())-1, true, x.Token, want)
}

// asks wants a token's answer.
func asks(t *testing.T, c *cloud.Cloud, token int, want api.Answer) {
	t.Helper()
	if a, ok := c.Ask(token); a != want || !ok {
		t.Errorf("Ask of %d: %+v, %t; not %+v", token, a, ok, want)
	}
}

// flies wants tokens to be in flight, in this order.
func flies(t *testing.T, c *cloud.Cloud, want ...int) {
	t.Helper()
	if l := c.Flight(); !slices.Equal(l, want) {
		t.Errorf("in flight: %v, not %v", l, want)
	}
}

// has wants things to be there, and so many to have been made; and Get to tell the same.
func has(t *testing.T, c *cloud.Cloud, made int, want ...api.Thing) {
	t.Helper()
	if l := c.Things(); !slices.EqualFunc(l, want, sameThing) {
		t.Errorf("there is %v, not %v", l, want)
	}
	if n := c.Made(); n != made {
		t.Errorf("%d made, not %d", n, made)
	}
	for n := range made + 2 {
		phys := fmt.Sprint("p", n)
		at := slices.IndexFunc(want, func(x api.Thing) bool { return x.Phys == phys })
		x, ok := c.Get(phys)
		if ok != (at >= 0) || ok && !sameThing(x, want[at]) || !ok && !sameThing(x, api.Thing{}) {
			t.Errorf("Get of %s: %v, %t", phys, x, ok)
		}
	}
}

// called wants just these calls to have been submitted, in this order.
func called(t *testing.T, c *cloud.Cloud, want ...api.Call) {
	t.Helper()
	if l := c.Calls(); !slices.EqualFunc(l, want, sameCall) {
		t.Errorf("called: %+v, not %+v", l, want)
	}
}

func sameThing(a, b api.Thing) bool {
	return a.Phys == b.Phys && a.Type == b.Type && schema.Same(a.Props, b.Props)
}

func sameCall(a, b api.Call) bool {
	return a.Token == b.Token && a.Kind == b.Kind && a.Phys == b.Phys && a.Type == b.Type && schema.Same(a.Props, b.Props)
}

// full are all properties of a Disk.
func full() givens { return givens{text("Kind", "a"), number("Size", 1), tags("x", "y")} }

// stocked is a cloud that made a Disk, a Net, a Node and a Rule, of which the Net is gone; its tokens are 1 to 5.
func stocked(t *testing.T) *cloud.Cloud {
	t.Helper()
	c := cloud.New()
	does(t, c, creating(1, "Disk", full()...), well("p1"))
	does(t, c, creating(2, "Net", text("Range", "r")), well("p2"))
	does(t, c, creating(3, "Node", text("Disk", "p1"), text("Image", "i")), well("p3"))
	does(t, c, deleting(4, "p2"), well(""))
	does(t, c, creating(5, "Rule"), well("p4"))
	return c
}

// stock is what stocked has.
func stock() []api.Thing {
	return []api.Thing{thing("p1", "Disk", full()...), thing("p3", "Node", text("Disk", "p1"), text("Image", "i")), thing("p4", "Rule")}
}
