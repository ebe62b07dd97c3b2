package schema_test

import (
	"testing"

	"hoarding/api"
	"hoarding/schema"
	"hoarding/tree"
)

// choices are what may become of a property: it is not given, has one of a few values, or is unknown; for some it may not be.
func choices(spec api.Spec) []*api.Given {
	out := []*api.Given{nil, {Name: spec.Name, Unknown: true}, {Name: spec.Name}}
	for _, v := range goods(spec.Kind)[:3] {
		out = append(out, &api.Given{Name: spec.Name, V: v})
	}
	return append(out, &api.Given{Name: spec.Name, V: bads(spec.Kind)[1]})
}

// rows are all lists of properties that choices make, for each property of a type.
func rows(kind string) [][]api.Given {
	out := [][]api.Given{nil}
	for _, spec := range specs(kind) {
		var longer [][]api.Given
		may := choices(spec)
		for _, l := range out {
			for _, c := range may {
				m := l[:len(l):len(l)]
				if c != nil {
					m = append(m, *c)
				}
				longer = append(longer, m)
			}
		}
		out = longer
	}
	return out
}

// wantCheck is what the chapter says of Check, where names rise and the type has them.
func wantCheck(kind string, l []api.Given) api.Errno {
	for _, g := range l {
		k, _ := kindOf(kind, g.Name)
		if g.Unknown && k == api.Number || !g.Unknown && g.V.Kind != k {
			return api.ErrProp
		}
	}
	return api.OK
}

// wantDiffer is what the chapter says of Differ, likewise.
func wantDiffer(kind string, a, b []api.Given) (int8, api.Errno) {
	if wantCheck(kind, a) != api.OK || wantCheck(kind, b) != api.OK {
		return 0, api.ErrProp
	}
	for _, g := range a {
		if g.Unknown {
			return 0, api.ErrProp
		}
	}
	change := api.ChNone
	for _, spec := range specs(kind) {
		var was, shall *api.Given
		for i := range a {
			if a[i].Name == spec.Name {
				was = &a[i]
			}
		}
		for i := range b {
			if b[i].Name == spec.Name {
				shall = &b[i]
			}
		}
		switch {
		case was == nil && shall == nil:
		case was == nil || shall == nil || shall.Unknown || !tree.Equal(was.V, shall.V):
			if spec.Replace || change == api.ChReplace {
				change = api.ChReplace
			} else {
				change = api.ChModify
			}
		}
	}
	return change, api.OK
}

// known answers l with its unknown ones become known: those that are in a as they are there, if as is set; else others.
func known(kind string, l, a []api.Given, as bool) []api.Given {
	l = clones(l)
	for i, g := range l {
		if !g.Unknown {
			continue
		}
		k, _ := kindOf(kind, g.Name)
		l[i] = api.Given{Name: g.Name, V: goods(k)[4]}
		for _, h := range a {
			if as && h.Name == g.Name {
				l[i] = h
			}
		}
	}
	return l
}

// P9.1, P9.2, P9.3: all rows of a few choices for each property, held against each other by a second reading of the chapter.
func TestAll(t *testing.T) {
	rank := map[int8]int{api.ChNone: 0, api.ChModify: 1, api.ChReplace: 2}
	for _, kind := range kinds {
		l := rows(kind)
		step := max(1, len(l)/150)
		for i, a := range l {
			if e := schema.Check(kind, a); e != wantCheck(kind, a) {
				t.Errorf("Check of %s, %v: %d", kind, a, e)
			}
			for j := i % step; j < len(l); j += step {
				b := l[j]
				c, e := schema.Differ(kind, a, b)
				if want, f := wantDiffer(kind, a, b); c != want || e != f {
					t.Errorf("Differ of %s, %v, %v: %d, %d; not %d, %d", kind, a, b, c, e, want, f)
				}
				if e != api.OK {
					continue
				}
				if (c == api.ChNone) != schema.Same(a, b) {
					t.Errorf("%s, %v, %v: %d, but Same tells %v", kind, a, b, c, schema.Same(a, b))
				}
				for _, as := range []bool{false, true} {
					if d, e := schema.Differ(kind, a, known(kind, b, a, as)); e != api.OK || rank[d] > rank[c] {
						t.Errorf("Differ of %s, %v, %v: %d; when they are known %d, %d", kind, a, b, c, d, e)
					}
				}
			}
		}
	}
}

// P9.3: Differ of the same is ChNone, where it may be.
func TestDifferSame(t *testing.T) {
	told := 0
	for _, kind := range kinds {
		for _, a := range rows(kind) {
			c, e := schema.Differ(kind, a, clones(a))
			if c != api.ChNone {
				t.Errorf("%s, %v: %d", kind, a, c)
			}
			if e == api.OK {
				told++
			}
		}
	}
	if told < 300 {
		t.Errorf("%d rows may be", told)
	}
}
