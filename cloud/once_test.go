package cloud_test

import (
	"fmt"
	"slices"
	"testing"

	"hoarding/api"
	"hoarding/cloud"
	"hoarding/tree"
)

// model is a cloud by the chapter's words alone. Nothing of it is told as it stands: it is worked out from the calls that ended, gone over from the first on.
type model struct {
	calls  []api.Call
	flight []int // places in calls
	ended  []ended
}

// ended is a call that ended.
type ended struct {
	call api.Call
	well bool // it was told to end so
	a    api.Answer
}

// kindOf answers of which kind the properties of a type are, of those that the acts know.
func kindOf(kind, name string) (int8, bool) {
	k, ok := map[string]int8{"Disk Kind": api.Text, "Disk Size": api.Number, "Disk Tags": api.List, "Net Label": api.Text, "Net Range": api.Text}[kind+" "+name]
	return k, ok
}

// turned tells whether some property that replaces is not in both lists with the same value.
func turned(a, b givens) bool {
	lacks := func(l, m givens) bool {
		return slices.ContainsFunc(l, func(g api.Given) bool {
			return (g.Name == "Kind" || g.Name == "Range") && !slices.ContainsFunc(m, func(h api.Given) bool { return g.Name == h.Name && tree.Equal(g.V, h.V) })
		})
	}
	return lacks(a, b) || lacks(b, a)
}

// may tells whether a thing of a type can have properties.
func may(kind string, l givens) bool {
	return !slices.ContainsFunc(l, func(g api.Given) bool {
		k, ok := kindOf(kind, g.Name)
		return !ok || k != g.V.Kind
	})
}

// stands answers the thing with a physical id: made by a create that went well, with the properties of the last update that did, unless a delete that did took it away (P11.4).
func (m *model) stands(phys string) (x api.Thing, ok bool) {
	for _, d := range m.ended {
		switch {
		case !d.a.Ok:
		case d.call.Kind == api.CallCreate && d.a.Phys == phys:
			x, ok = thing(phys, d.call.Type, d.call.Props...), true
		case d.call.Phys != phys:
		case d.call.Kind == api.CallUpdate:
			x.Props = d.call.Props
		case d.call.Kind == api.CallDelete:
			x, ok = api.Thing{}, false
		}
	}
	return x, ok
}

func (m *model) made() (n int) {
	for _, d := range m.ended {
		if d.a.Ok && d.call.Kind == api.CallCreate {
			n++
		}
	}
	return n
}

func (m *model) submit(x api.Call) api.Errno {
	if x.Kind != api.CallDelete && !may(x.Type, x.Props) {
		return api.ErrProp
	}
	if !slices.ContainsFunc(m.calls, func(y api.Call) bool { return x.Token == y.Token }) {
		m.flight = append(m.flight, len(m.calls))
		m.calls = append(m.calls, x)
	}
	return api.OK
}

func (m *model) end(k int, goes bool) (int, api.Answer, api.Errno) {
	if k < 0 || k >= len(m.flight) {
		return 0, api.Answer{}, api.ErrNone
	}
	x := m.calls[m.flight[k]]
	m.flight = slices.Delete(slices.Clone(m.flight), k, k+1)
	was, ok := m.stands(x.Phys)
	a := api.Answer{Ended: true, Ok: goes}
	switch {
	case x.Kind == api.CallCreate && goes:
		a.Phys = fmt.Sprint("p", m.made()+1)
	case x.Kind == api.CallUpdate:
		a.Ok = goes && ok && may(was.Type, x.Props) && !turned(was.Props, x.Props)
	case x.Kind == api.CallDelete:
		a.Ok = goes && ok
	}
	m.ended = append(m.ended, ended{x, goes, a})
	return x.Token, a, api.OK
}

func (m *model) ask(token int) (api.Answer, bool) {
	for _, d := range m.ended {
		if d.call.Token == token {
			return d.a, true
		}
	}
	return api.Answer{}, slices.ContainsFunc(m.calls, func(x api.Call) bool { return x.Token == token })
}

// act is a call of a cloud, of its model likewise: an End of a place, or a Submit.
type act struct {
	call api.Call // of token 0: an End
	k    int
	well bool
}

func (a act) String() string {
	if a.call.Token == 0 {
		return fmt.Sprintf("End %d %t", a.k, a.well)
	}
	return fmt.Sprintf("Submit %+v", a.call)
}

// both does an act on a cloud and on a model, and tells what both answer.
func (a act) both(c *cloud.Cloud, m *model) (got, want [3]any) {
	if a.call.Token != 0 {
		return [3]any{c.Submit(a.call)}, [3]any{m.submit(a.call)}
	}
	token, x, e := c.End(a.k, a.well)
	wantToken, y, f := m.end(a.k, a.well)
	return [3]any{token, x, e}, [3]any{wantToken, y, f}
}

// acts are the acts that the rows are of.
func acts() []act {
	of := func(x api.Call) act { return act{call: x} }
	return []act{
		of(creating(1, "Disk", text("Kind", "a"))), of(creating(2, "Net")), of(creating(2, "Disk", number("Size", 1))), of(deleting(1, "p1")), of(deleting(3, "p1")), of(deleting(4, "p2")),
		of(updating(2, "p1", "Disk", text("Kind", "a"), number("Size", 2))), of(updating(4, "p1", "Disk", number("Size", 1), tags("x"))), of(updating(3, "p1", "Net", text("Label", "l"))), of(creating(1, "Net", number("Size", 1))),
		{k: 0, well: true}, {k: 0}, {k: 1, well: true}, {k: 1}, {k: 2, well: true}, {k: -1, well: true},
	}
}

// agree wants a cloud to tell just what its model does.
func agree(t *testing.T, row []act, c *cloud.Cloud, m *model) {
	t.Helper()
	var things []api.Thing
	for n := range m.made() + 2 {
		phys := fmt.Sprint("p", n)
		want, ok := m.stands(phys)
		if ok {
			things = append(things, want)
		}
		if x, there := c.Get(phys); there != ok || !sameThing(x, want) {
			t.Errorf("%v: Get of %s: %v, %t, not %v", row, phys, x, there, want)
		}
	}
	if l := c.Things(); !slices.EqualFunc(l, things, sameThing) || c.Made() != m.made() {
		t.Errorf("%v: %v of %d, not %v of %d", row, l, c.Made(), things, m.made())
	}
	var flight []int
	for _, place := range m.flight {
		flight = append(flight, m.calls[place].Token)
	}
	if l := c.Flight(); !slices.Equal(l, flight) {
		t.Errorf("%v: in flight %v, not %v", row, l, flight)
	}
	if l := c.Calls(); !slices.EqualFunc(l, m.calls, sameCall) {
		t.Errorf("%v: called %v, not %v", row, l, m.calls)
	}
	for token := range 6 {
		a, ok := c.Ask(token)
		if want, there := m.ask(token); a != want || ok != there {
			t.Errorf("%v: Ask of %d: %v, %t; not %v, %t", row, token, a, ok, want, there)
		}
	}
}

// P11.1 to P11.4: all rows of up to four acts, held against a second reading of the chapter.
func TestAll(t *testing.T) {
	all := acts()
	var follow func(row []act)
	follow = func(row []act) {
		c, m := cloud.New(), &model{}
		for i, a := range row {
			if got, want := a.both(c, m); i == len(row)-1 && got != want {
				t.Errorf("%v: %v, not %v", row, got, want)
			}
		}
		agree(t, row, c, m)
		if len(row) == 4 || t.Failed() {
			return
		}
		for _, a := range all {
			follow(append(row[:len(row):len(row)], a))
		}
	}
	follow(nil)
}

// P11.1 to P11.4: long rows of acts, with more tokens, held against the same.
func TestLong(t *testing.T) {
	pick := uint64(1)
	some := func(n int) int {
		pick = pick*6364136223846793005 + 1442695040888963407
		return int(pick >> 33 % uint64(n))
	}
	props := []givens{nil, {number("Size", 1)}, {text("Kind", "a"), tags("x")}, {text("Label", "l")}, {text("Label", "l"), text("Range", "r")}}
	for range 40 {
		c, m, row := cloud.New(), &model{}, []act{}
		for range 100 {
			phys, kind := fmt.Sprint("p", some(9)), []string{"Disk", "Net"}[some(2)]
			a := act{k: some(5) - 1, well: some(3) > 0}
			switch some(6) {
			case 0:
				a.call = creating(some(60)+1, kind, props[some(len(props))]...)
			case 1:
				a.call = updating(some(60)+1, phys, kind, props[some(len(props))]...)
			case 2:
				a.call = deleting(some(60)+1, phys)
			}
			row = append(row, a)
			if got, want := a.both(c, m); got != want {
				t.Fatalf("%v: %v, not %v", row, got, want)
			}
			agree(t, row, c, m)
		}
	}
}

// P11.4: a token takes effect once, however often it is submitted, before its end and behind it.
func TestOnce(t *testing.T) {
	for _, x := range []api.Call{creating(7, "Net"), updating(7, "p1", "Disk", text("Kind", "a")), deleting(7, "p3"), creating(7, "Disk", full()...)} {
		c := stocked(t)
		for range 5 {
			submit(t, c, x)
			flies(t, c, 7)
		}
		token, a, e := c.End(0, true)
		if token != 7 || !a.Ok || e != api.OK {
			t.Errorf("End: %d, %v, %d", token, a, e)
		}
		things, made := c.Things(), c.Made()
		for range 5 {
			submit(t, c, x)
			flies(t, c)
			endsNone(t, c, 0)
			asks(t, c, 7, a)
			has(t, c, made, things...)
		}
		if n := len(c.Calls()); n != 6 {
			t.Errorf("%d calls", n)
		}
	}
}
