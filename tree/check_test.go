package tree_test

import (
	"math"
	"strings"
	"testing"

	"hoarding/api"
	"hoarding/tree"
)

// P3.1: values that may be.
func TestCheck(t *testing.T) {
	for _, v := range ordered() {
		if e := tree.Check(v); e != api.OK {
			t.Errorf("%v: %d", v, e)
		}
	}
	for name, v := range map[string]api.Value{
		"greatest":            tree.Num(api.MaxNumber),
		"least":               tree.Num(-api.MaxNumber),
		"a long text":         tree.Text(strings.Repeat("\u20ac", 100000)),
		"nothing, not nil":    {List: []api.Value{}, Keys: []string{}},
		"list of nothing":     {Kind: api.List, List: []api.Value{}, Keys: []string{}},
		"text with no lists":  {Kind: api.Text, List: []api.Value{}},
		"nil object":          {Kind: api.Object},
		"nil keys":            {Kind: api.Object, List: []api.Value{}},
		"an empty key":        {Kind: api.Object, Keys: []string{""}, List: []api.Value{null}},
		"like keys":           object("a A aa a\x00 \u00e9 e\u0301", null, null, null, null, null, null),
		"one key, two depths": object("a b", object("a b", null, null), list(object("a b", null, null))),
		"deep":                chain(api.MaxDeep),
		"deep objects":        chainOf(api.MaxDeep, list(), object("a")),
		"deep at last":        list(null, list(), chain(api.MaxDeep-1)),
		"deep at first":       list(chain(api.MaxDeep-1), null),
		"long":                many(api.MaxText),
	} {
		if e := tree.Check(v); e != api.OK {
			t.Errorf("%s: %d", name, e)
		}
	}
}

// P3.1: values that may not be, with the first thing that is wrong.
func TestCheckWrong(t *testing.T) {
	for name, c := range wrongs() {
		if e := tree.Check(c.v); e != c.e {
			t.Errorf("%s: %d", name, e)
		}
		if c.e == api.ErrDeep {
			continue
		}
		for where, v := range map[string]api.Value{
			"in a list":          list(null, c.v, api.Value{Kind: 9}),
			"in an object":       object("b a", c.v, api.Value{Kind: 9}),
			"in a list's object": list(object("a", yes), object("x y", list(), c.v), api.Value{Kind: 9}),
		} {
			if tree.Depth(v) <= api.MaxDeep && tree.Check(v) != c.e {
				t.Errorf("%s, %s: %d", name, where, tree.Check(v))
			}
		}
	}
}

// P3.1: too many values, behind all else that may be wrong.
func TestCheckLong(t *testing.T) {
	rows := object("a b", many(api.MaxText/2), many(api.MaxText/2-1))
	if n := tree.Count(rows); n != api.MaxText {
		t.Fatal(n)
	}
	if e := tree.Check(rows); e != api.OK {
		t.Errorf("exactly as many: %d", e)
	}
	rows.List[0].List = append(rows.List[0].List, null)
	for name, v := range map[string]api.Value{"one list": many(api.MaxText + 1), "two lists": rows, "far too many": many(100000)} {
		if e := tree.Check(v); e != api.ErrLong {
			t.Errorf("%s: %d", name, e)
		}
	}
	for e, last := range map[api.Errno]api.Value{api.ErrArg: {Kind: 9}, api.ErrNumber: tree.Num(math.MinInt), api.ErrText: tree.Text("\xff"), api.ErrTwice: object("a a", null, null), api.ErrDeep: chain(api.MaxDeep)} {
		v := many(api.MaxText + 1)
		v.List = append(v.List, last)
		if got := tree.Check(v); got != e {
			t.Errorf("%d behind too many: %d", e, got)
		}
	}
}

// P3.1: Depth, of any kind.
func TestDepth(t *testing.T) {
	for _, outer := range []api.Value{list(), object("a"), null, tree.Text("a"), {Kind: 9, Keys: []string{"a", "b"}}} {
		for _, n := range []int{1, 2, 3, api.MaxDeep, api.MaxDeep + 1, 999, 1000} {
			if got := tree.Depth(chainOf(n, null, outer)); got != n {
				t.Errorf("%d deep: %d", n, got)
			}
		}
		for _, n := range []int{1001, 1002, 2000, 100000} {
			if got := tree.Depth(chainOf(n, null, outer)); got != 1001 {
				t.Errorf("%d deep: %d", n, got)
			}
		}
	}
	for want, vs := range map[int][]api.Value{
		1:    {null, yes, tree.Num(5), tree.Text("a"), list(), object(""), {Kind: api.Object, Keys: []string{"a", "b"}}, {Kind: -3}},
		2:    {list(null, null, null), object("a b", null, list())},
		4:    {list(null, chain(3), chain(2)), list(chain(3), null), list(chain(1), chain(2), chain(3)), {List: []api.Value{chain(3)}}},
		1000: {list(chain(5), chain(999), chain(7))},
		1001: {list(null, chain(1000)), list(chain(1000), null), list(chain(999), chain(2000), chain(999)), endless()},
	} {
		for _, v := range vs {
			if got := tree.Depth(v); got != want {
				t.Errorf("Depth, %d asked: %d", want, got)
			}
		}
	}
	if e := tree.Check(endless()); e != api.ErrDeep {
		t.Errorf("a list that holds itself: %d", e)
	}
}

// P3.1: Count, of any kind.
func TestCount(t *testing.T) {
	for want, vs := range map[int][]api.Value{
		1:               {null, tree.Num(7), tree.Text("abc"), list(), object(""), {Kind: 9}, {Kind: api.Object, Keys: []string{"a"}}},
		2:               {list(null), object("a", list()), {List: []api.Value{null}}, {Kind: -1, List: []api.Value{null}, Keys: []string{"a", "b", "c"}}},
		7:               {list(list(null, null), object("a b", yes, null)), object("a", list(null, null, null, object("b", null)))},
		api.MaxText + 1: {many(api.MaxText + 1)},
		2001:            {chain(2001)},
		1 << 20:         {chain(1 << 20), many(1 << 20)},
	} {
		for i, v := range vs {
			if got := tree.Count(v); got != want {
				t.Errorf("Count, %d asked (%d): %d", want, i, got)
			}
		}
	}
}

// P3.1, P3.2: each call ends, however deep the value is.
func TestVeryDeep(t *testing.T) {
	const n = 5_000_000
	v := object("a", chain(n-1))
	if got := tree.Count(v); got != n {
		t.Errorf("Count: %d", got)
	}
	if e := tree.Check(v); e != api.ErrDeep || tree.Depth(v) != 1001 {
		t.Errorf("Check: %d; Depth: %d", e, tree.Depth(v))
	}
	if tree.Equal(v, v) || tree.Less(v, v) || tree.Less(null, v) {
		t.Error("Equal, Less")
	}
	if w := tree.Sorted(v); tree.Count(w) != n {
		t.Error("Sorted")
	}
	if w, ok := tree.Get(v, "a"); !ok || tree.Count(w) != n-1 {
		t.Error("Get")
	}
	steps := 0
	for range tree.Walk(v) {
		if steps++; steps == n/10 {
			break
		}
	}
	if steps != n/10 {
		t.Errorf("Walk: %d", steps)
	}
}
