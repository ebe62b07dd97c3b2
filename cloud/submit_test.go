package cloud_test

import (
	"slices"
	"strings"
	"testing"

	"hoarding/api"
	"hoarding/cloud"
)

// none are types that are none.
var none = []string{"disk", "Disk ", "Dis", "Disks", "Size", "\xff", strings.Repeat("Disk", 10000)}

// bads are known properties that a Disk may not have.
func bads() []givens {
	return []givens{
		{{}}, {number("size", 1)}, {text("Size", "a")}, {number("Kind", 1)}, {text("Kind", "\xff")}, {text("Kind", strings.Repeat("w", api.MaxWord+1))},
		{number("Size", api.MaxNumber+1)}, {number("Size", 1), text("Kind", "a")}, {number("Size", 1), number("Size", 1)}, {text("Label", "l")}, {{Name: "Tags"}},
		{tags(slices.Repeat([]string{"x"}, api.MaxList+1)...)}, {text("Kind", "a"), tags("\xff")}, {{Name: "Kind", V: api.Value{Kind: 9}}},
	}
}

// unknowns are properties of which at least one is unknown.
func unknowns() []givens {
	return []givens{
		{unknown("Kind")}, {unknown("Kind"), number("Size", 1), tags("x")}, {text("Kind", "a"), number("Size", 1), unknown("Tags")}, {text("Kind", "a"), unknown("Size"), tags()},
		{{Unknown: true}}, {unknown("Label")}, {{Name: "Kind", Unknown: true, V: api.Value{Kind: api.Text}}},
		{{}, unknown("Kind")}, {unknown("Kind"), {}}, {number("Size", 1), text("Kind", "a"), unknown("Tags")}, {unknown("Tags"), unknown("Kind")},
	}
}

// refuses wants a call not to be taken, and nothing to come of it.
func refuses(t *testing.T, c *cloud.Cloud, x api.Call, want api.Errno) {
	t.Helper()
	flight, calls, things := c.Flight(), c.Calls(), c.Things()
	was, wasOk := c.Ask(x.Token)
	if e := c.Submit(x); e != want {
		t.Errorf("Submit of %.200v: %d, not %d", x, e, want)
	}
	if a, ok := c.Ask(x.Token); a != was || ok != wasOk {
		t.Errorf("Submit of %.200v: Ask tells %v, %t", x, a, ok)
	}
	flies(t, c, flight...)
	called(t, c, calls...)
	if !slices.EqualFunc(c.Things(), things, sameThing) {
		t.Errorf("Submit of %.200v: %v", x, c.Things())
	}
}

// goods are calls that may be submitted, without their tokens.
func goods() []api.Call {
	return []api.Call{
		creating(0, "Disk"), creating(0, "Disk", full()...), creating(0, "Disk", number("Size", -api.MaxNumber)), creating(0, "Disk", tags()), creating(0, "Net", text("Label", ""), text("Range", "")),
		creating(0, "Node", number("Count", 0), text("Disk", ""), text("Image", ""), text("Net", "")), creating(0, "Rule", text("Node", "p1"), number("Port", 1)),
		{Kind: api.CallCreate, Type: "Net", Props: givens{}},
		updating(0, "p1", "Disk"), updating(0, "p1", "Disk", full()...), updating(0, "p9", "Rule", number("Port", 2)), updating(0, "p", "Net"), updating(0, "\xff", "Node"), updating(0, " ", "Disk", tags("x")),
		deleting(0, "p1"), deleting(0, "p0"), deleting(0, "nothing"), {Kind: api.CallDelete, Phys: "p1", Type: "Disk"}, {Kind: api.CallDelete, Phys: "p1", Type: "Net"}, {Kind: api.CallDelete, Phys: "p1", Type: "disk"},
		{Kind: api.CallDelete, Phys: "p1", Type: "\xff"}, {Kind: api.CallDelete, Phys: "p1", Props: givens{}}, {Kind: api.CallDelete, Phys: "p1", Props: full()[:0]},
	}
}

// P11.1: calls that may be are in flight, in the order in which they were submitted, whatever their tokens; nothing is made by that.
func TestSubmit(t *testing.T) {
	for _, x := range goods() {
		for _, token := range []int{1, 2, 7, 1 << 40, greatest} {
			x.Token = token
			c := cloud.New()
			submit(t, c, x)
			flies(t, c, token)
			called(t, c, x)
			asks(t, c, token, api.Answer{})
			has(t, c, 0)
		}
	}
	c, all, tokens := cloud.New(), goods(), []int{}
	for i := range all {
		all[i].Token = i*7%len(all) + 1
		tokens = append(tokens, all[i].Token)
		submit(t, c, all[i])
		flies(t, c, tokens...)
		called(t, c, all[:i+1]...)
	}
	has(t, c, 0)
}

// P11.1: tokens below 1, of any call.
func TestSubmitToken(t *testing.T) {
	for _, x := range goods() {
		for _, token := range []int{0, -1, -7, -greatest, -greatest - 1} {
			x.Token = token
			refuses(t, cloud.New(), x, api.ErrArg)
			refuses(t, stocked(t), x, api.ErrArg)
		}
	}
}

// P11.1: kinds that are none, of any call.
func TestSubmitKind(t *testing.T) {
	for _, x := range goods() {
		for _, kind := range []int8{-1, 3, 4, 127, -128} {
			for _, phys := range []string{x.Phys, "p1", ""} {
				x.Token, x.Kind, x.Phys = 9, kind, phys
				refuses(t, cloud.New(), x, api.ErrArg)
				refuses(t, stocked(t), x, api.ErrArg)
			}
		}
	}
}

// P11.1: a physical id of a create, none of an update or a delete.
func TestSubmitPhys(t *testing.T) {
	for _, x := range goods() {
		x.Token = 9
		was := x.Phys
		for _, phys := range []string{"", "p1", "p9", "p", "\xff", " "} {
			x.Phys = phys
			switch {
			case (phys == "") != (was == ""):
				refuses(t, cloud.New(), x, api.ErrArg)
			default:
				submit(t, cloud.New(), x)
			}
		}
	}
}

// P11.1: properties of a delete, whatever they are, and whatever its type is.
func TestSubmitDeleteProps(t *testing.T) {
	for _, l := range slices.Concat(bads(), unknowns(), []givens{full(), {number("Size", 1)}, {text("Label", "l")}}) {
		for _, kind := range append(none, "", "Disk", "Net") {
			x := deleting(9, "p1")
			x.Type, x.Props = kind, l
			refuses(t, cloud.New(), x, api.ErrArg)
			refuses(t, stocked(t), x, api.ErrArg)
		}
	}
}

// P11.1: a delete's type is not looked at, neither when it is submitted nor when it ends.
func TestSubmitDeleteType(t *testing.T) {
	for _, kind := range append(none, "", "Disk", "Net") {
		c, x := stocked(t), deleting(9, "p1")
		x.Type = kind
		does(t, c, x, well(""))
		has(t, c, 4, stock()[1:]...)
	}
}

// P11.1: an update without a type is ErrArg, a create without one ErrType; types that are none.
func TestSubmitType(t *testing.T) {
	for _, l := range append(bads(), nil, full(), givens{}) {
		refuses(t, stocked(t), updating(9, "p1", "", l...), api.ErrArg)
		refuses(t, stocked(t), creating(9, "", l...), api.ErrType)
		for _, kind := range none {
			refuses(t, stocked(t), updating(9, "p1", kind, l...), api.ErrType)
			refuses(t, stocked(t), creating(9, kind, l...), api.ErrType)
		}
	}
}

// P11.1: properties that may not be.
func TestSubmitProps(t *testing.T) {
	for _, l := range bads() {
		for _, c := range []*cloud.Cloud{cloud.New(), stocked(t)} {
			refuses(t, c, creating(9, "Disk", l...), api.ErrProp)
			refuses(t, c, updating(9, "p1", "Disk", l...), api.ErrProp)
			refuses(t, c, updating(9, "nothing", "Disk", l...), api.ErrProp)
		}
	}
	for kind, l := range map[string]givens{"Disk": {text("Label", "l")}, "Net": {number("Size", 1)}, "Node": {number("Port", 1)}, "Rule": {text("Net", "n")}} {
		refuses(t, cloud.New(), creating(9, kind, l...), api.ErrProp)
		refuses(t, stocked(t), updating(9, "p1", kind, l...), api.ErrProp)
	}
}

// P11.1: unknown properties are ErrArg, ahead of what else is wrong with them, or with the type.
func TestSubmitUnknown(t *testing.T) {
	for _, l := range unknowns() {
		for _, kind := range append(none, "Disk", "Net", "") {
			refuses(t, cloud.New(), creating(9, kind, l...), api.ErrArg)
			refuses(t, stocked(t), updating(9, "p1", kind, l...), api.ErrArg)
		}
	}
}

// P11.1, R2: several errors at once: ErrArg, as long as one of its faults is left; then the type; then the properties.
func TestSubmitOrder(t *testing.T) {
	for n := range 1 << 5 {
		fault := func(k int) bool { return n>>k&1 == 1 }
		for _, x := range []api.Call{creating(9, "Disk", full()...), updating(9, "p1", "Disk", full()...)} {
			want := api.OK
			if fault(0) {
				x.Props, want = append(x.Props, text("Zone", "z")), api.ErrProp
			}
			if fault(1) {
				x.Type, want = "Disc", api.ErrType
			}
			if fault(2) {
				x.Props, want = append(x.Props, unknown("a")), api.ErrArg
			}
			if fault(3) {
				x.Phys, want = map[bool]string{true: "p1"}[x.Kind == api.CallCreate], api.ErrArg
			}
			if fault(4) {
				x.Token, want = 0, api.ErrArg
			}
			if want != api.OK {
				refuses(t, stocked(t), x, want)
				continue
			}
			submit(t, stocked(t), x)
		}
	}
}

// again are calls of a token: the one that was submitted, and others that may be.
func again(token int) []api.Call {
	all := []api.Call{creating(token, "Net", text("Label", "l"))}
	for _, x := range goods() {
		x.Token = token
		all = append(all, x)
	}
	return all
}

// P11.1, P11.4: a token that was submitted before is not submitted again, whatever it says, in flight or behind its end.
func TestSubmitAgain(t *testing.T) {
	for _, goes := range []bool{true, false} {
		for _, x := range again(3) {
			c := cloud.New()
			submit(t, c, deleting(8, "p7"), again(3)[0], creating(5, "Rule"))
			refuses(t, c, x, api.OK)
			flies(t, c, 8, 3, 5)
			want := badly
			if goes {
				want = well("p1")
			}
			ends(t, c, 1, goes, 3, want)
			refuses(t, c, x, api.OK)
			flies(t, c, 8, 5)
			asks(t, c, 3, want)
			ends(t, c, 0, true, 8, badly)
			refuses(t, c, x, api.OK)
			ends(t, c, 0, false, 5, badly)
			refuses(t, c, x, api.OK)
			asks(t, c, 3, want)
			called(t, c, deleting(8, "p7"), again(3)[0], creating(5, "Rule"))
			if c.Made() != len(c.Things()) || (c.Made() == 1) != goes {
				t.Errorf("made %d: %v", c.Made(), c.Things())
			}
		}
	}
}

// P11.1, R2: a token that was submitted before, and what may not be: the errors are named ahead.
func TestSubmitAgainWrong(t *testing.T) {
	c := stocked(t)
	submit(t, c, creating(9, "Disk"))
	for _, token := range []int{1, 4, 9} {
		refuses(t, c, api.Call{Token: token, Kind: 3}, api.ErrArg)
		refuses(t, c, deleting(token, ""), api.ErrArg)
		refuses(t, c, updating(token, "p1", ""), api.ErrArg)
		refuses(t, c, creating(token, "Disk", unknown("Kind")), api.ErrArg)
		refuses(t, c, creating(token, "Disc"), api.ErrType)
		refuses(t, c, creating(token, "Disk", text("Label", "l")), api.ErrProp)
	}
}
