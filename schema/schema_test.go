package schema_test

import (
	"cmp"
	"slices"
	"strings"
	"sync"
	"testing"

	"hoarding/api"
	"hoarding/schema"
)

// table is the chapter's own: each type's properties that change in place, then those that replace.
const table = `Disk | Size number, Tags list | Kind text
Net | Label text | Range text
Node | Count number, Disk text | Image text, Net text
Rule | Node text | Port number`

var kinds = []string{"Disk", "Net", "Node", "Rule"}

// none are types that are none.
var none = []string{"", "disk", "DISK", "Disk ", " Disk", "Disk\x00", "Dis", "Disks", "Nets", "Size", "Kind", "Stack", "\xff", strings.Repeat("Disk", 10000)}

// specs answers what the table says of a type, by names.
func specs(kind string) []api.Spec { return said()[kind] }

var said = sync.OnceValue(func() map[string][]api.Spec {
	out := map[string][]api.Spec{}
	for _, kind := range kinds {
		out[kind] = read(kind)
	}
	return out
})

func read(kind string) (out []api.Spec) {
	for line := range strings.SplitSeq(table, "\n") {
		parts := strings.Split(line, " | ")
		if parts[0] != kind {
			continue
		}
		for i, props := range parts[1:] {
			for prop := range strings.SplitSeq(props, ", ") {
				name, what, _ := strings.Cut(prop, " ")
				out = append(out, api.Spec{Name: name, Kind: map[string]int8{"number": api.Number, "text": api.Text, "list": api.List}[what], Replace: i == 1})
			}
		}
	}
	slices.SortFunc(out, func(a, b api.Spec) int { return cmp.Compare(a.Name, b.Name) })
	return out
}

// names are those of all types' properties, and such as are none's.
func names() []string {
	out := []string{"", "size", "Size ", "Siz", "Arn", "Zone", "Disks", "\xff"}
	for _, kind := range kinds {
		for _, spec := range specs(kind) {
			out = append(out, spec.Name)
		}
	}
	return append(out, kinds...)
}

// P9.1: the types, in their order.
func TestTypes(t *testing.T) {
	if got := schema.Types(); !slices.Equal(got, []string{"Disk", "Net", "Node", "Rule"}) {
		t.Errorf("%q", got)
	}
}

// P9.1: each property of each type, its kind and how it changes, by names.
func TestSpecs(t *testing.T) {
	for kind, want := range map[string][]api.Spec{
		"Disk": {{Name: "Kind", Kind: api.Text, Replace: true}, {Name: "Size", Kind: api.Number}, {Name: "Tags", Kind: api.List}},
		"Net":  {{Name: "Label", Kind: api.Text}, {Name: "Range", Kind: api.Text, Replace: true}},
		"Node": {{Name: "Count", Kind: api.Number}, {Name: "Disk", Kind: api.Text}, {Name: "Image", Kind: api.Text, Replace: true}, {Name: "Net", Kind: api.Text, Replace: true}},
		"Rule": {{Name: "Node", Kind: api.Text}, {Name: "Port", Kind: api.Number, Replace: true}},
	} {
		if got, e := schema.Specs(kind); e != api.OK || !slices.Equal(got, want) {
			t.Errorf("%s: %v, %d", kind, got, e)
		}
		if !slices.Equal(want, specs(kind)) {
			t.Errorf("%s: the table is read as %v", kind, specs(kind))
		}
	}
}

// P9.1: types that are none, to each call that is given one, beside other things that are wrong, too.
func TestNoType(t *testing.T) {
	wrong := []api.Given{{Name: "Nothing"}}
	for _, kind := range none {
		if l, e := schema.Specs(kind); l != nil || e != api.ErrType {
			t.Errorf("Specs of %.20q: %v, %d", kind, l, e)
		}
		for _, name := range names() {
			if spec, ok := schema.Find(kind, name); ok || spec != (api.Spec{}) {
				t.Errorf("Find of %.20q, %q: %v, %v", kind, name, spec, ok)
			}
			if s, e := schema.Attr(kind, "p7", name); s != "" || e != api.ErrType {
				t.Errorf("Attr of %.20q, %q: %q, %d", kind, name, s, e)
			}
		}
		for _, l := range [][]api.Given{nil, {}, wrong, {{Name: "Kind", Unknown: true}}, {number("Size", 1)}} {
			if e := schema.Check(kind, l); e != api.ErrType {
				t.Errorf("Check of %.20q, %v: %d", kind, l, e)
			}
			for _, m := range [][]api.Given{nil, wrong, {{Name: "Kind", Unknown: true}}} {
				if c, e := schema.Differ(kind, l, m); c != 0 || e != api.ErrType {
					t.Errorf("Differ of %.20q, %v, %v: %d, %d", kind, l, m, c, e)
				}
			}
		}
	}
}

// P9.1: Find of properties that the type has, and of those that only another one has, or none.
func TestFind(t *testing.T) {
	found := 0
	for _, kind := range kinds {
		has := map[string]api.Spec{}
		for _, spec := range specs(kind) {
			has[spec.Name] = spec
		}
		for _, name := range names() {
			want, ok := has[name]
			if got, found := schema.Find(kind, name); found != ok || got != want {
				t.Errorf("%s, %q: %v, %v", kind, name, got, found)
			}
		}
		found += len(has)
	}
	if found != 11 {
		t.Errorf("%d properties", found)
	}
}

// P9.1: the attributes.
func TestAttr(t *testing.T) {
	for _, kind := range kinds {
		for phys, zone := range map[string]string{"p7": "7", "p10": "0", "p": "p", "": "", "a:b": "b", "\u20ac": "\xac", "x\x00": "\x00", strings.Repeat("p1", 5000) + "9": "9"} {
			if s, e := schema.Attr(kind, phys, "Arn"); s != kind+":"+phys || e != api.OK {
				t.Errorf("Arn of %s, %.20q: %q, %d", kind, phys, s, e)
			}
			if s, e := schema.Attr(kind, phys, "Zone"); s != zone || e != api.OK {
				t.Errorf("Zone of %s, %.20q: %q, %d", kind, phys, s, e)
			}
			for _, name := range []string{"", "arn", "ARN", "Arn ", " Zone", "Zones", "zone", "Size", "Kind", "Ref", "Id", kind, phys} {
				if s, e := schema.Attr(kind, phys, name); s != "" || e != api.ErrProp {
					t.Errorf("%q of %s, %.20q: %q, %d", name, kind, phys, s, e)
				}
			}
		}
	}
	if s, e := schema.Attr("Disk", "p7", "Arn"); s != "Disk:p7" || e != api.OK {
		t.Errorf("the chapter's example: %q, %d", s, e)
	}
}
