package schema_test

import (
	"testing"

	"hoarding/api"
	"hoarding/schema"
	"hoarding/tree"
)

func checks(t *testing.T, kind string, want api.Errno, l ...api.Given) {
	t.Helper()
	if e := schema.Check(kind, l); e != want {
		t.Errorf("Check of %s, %.200v: %d, not %d", kind, l, e, want)
	}
}

// all are all of a type's properties, with values that they may have.
func all(kind string) (l []api.Given) {
	for _, spec := range specs(kind) {
		l = append(l, api.Given{Name: spec.Name, V: goods(spec.Kind)[1]})
	}
	return l
}

// P9.1: Check of no properties, of each alone, and of all, with each value that may be.
func TestCheck(t *testing.T) {
	for _, kind := range kinds {
		checks(t, kind, api.OK)
		if e := schema.Check(kind, []api.Given{}); e != api.OK {
			t.Errorf("Check of %s and no properties: %d", kind, e)
		}
		l := all(kind)
		checks(t, kind, api.OK, l...)
		for i, g := range l {
			spec, _ := kindOf(kind, g.Name)
			for _, v := range goods(spec) {
				checks(t, kind, api.OK, api.Given{Name: g.Name, V: v})
				l[i].V = v
				checks(t, kind, api.OK, l...)
			}
		}
	}
}

// P9.1: values of another kind, no texts, no words, lists too long or with others in them: alone, and among others that may be.
func TestCheckValues(t *testing.T) {
	for _, kind := range kinds {
		for i, spec := range specs(kind) {
			for _, v := range bads(spec.Kind) {
				checks(t, kind, api.ErrProp, api.Given{Name: spec.Name, V: v})
				l := all(kind)
				l[i].V = v
				checks(t, kind, api.ErrProp, l...)
			}
		}
	}
}

// P9.1: unknown ones: texts, and lists as a whole, but no numbers; and none that has a value, too.
func TestCheckUnknown(t *testing.T) {
	for _, kind := range kinds {
		for i, spec := range specs(kind) {
			want := api.OK
			if spec.Kind == api.Number {
				want = api.ErrProp
			}
			l := all(kind)
			for _, v := range []api.Value{{}, {List: []api.Value{}}, {Keys: []string{}}} {
				l[i] = api.Given{Name: spec.Name, Unknown: true, V: v}
				checks(t, kind, want, l[i])
				checks(t, kind, want, l...)
			}
			for _, v := range marks() {
				l[i] = api.Given{Name: spec.Name, Unknown: true, V: v}
				checks(t, kind, api.ErrProp, l[i])
				checks(t, kind, api.ErrProp, l...)
			}
		}
	}
	unknowns := []api.Given{unknown("Disk"), unknown("Image"), unknown("Net")}
	checks(t, "Node", api.OK, unknowns...)
	checks(t, "Node", api.ErrProp, append([]api.Given{unknown("Count")}, unknowns...)...)
	list := api.Given{Name: "Tags", V: api.Value{Kind: api.List, List: []api.Value{{}}}}
	checks(t, "Disk", api.ErrProp, list)
}

// P9.1: names that do not rise, the same name twice, names that the type has not.
func TestCheckNames(t *testing.T) {
	for _, kind := range kinds {
		l := all(kind)
		for i, g := range l {
			checks(t, kind, api.ErrProp, g, g)
			checks(t, kind, api.ErrProp, append(l[:i+1:i+1], l[i:]...)...)
			for _, h := range l[i+1:] {
				checks(t, kind, api.OK, g, h)
				checks(t, kind, api.ErrProp, h, g)
				checks(t, kind, api.ErrProp, g, h, g)
			}
		}
		for _, name := range names() {
			if _, has := kindOf(kind, name); has {
				continue
			}
			for _, v := range []api.Value{{}, tree.Num(1), tree.Text("a"), texts("a")} {
				checks(t, kind, api.ErrProp, api.Given{Name: name, V: v})
				checks(t, kind, api.ErrProp, api.Given{Name: name, V: v}, l[0])
				checks(t, kind, api.ErrProp, append(l[:len(l):len(l)], api.Given{Name: name, V: v})...)
			}
			checks(t, kind, api.ErrProp, unknown(name))
		}
	}
	checks(t, "Disk", api.ErrProp, text("Kind", "a"), tags("Tags"), number("Size", 1))
	checks(t, "Net", api.ErrProp, make([]api.Given, 100000)...)
}
