package schema_test

import (
	"slices"
	"strings"

	"hoarding/api"
	"hoarding/tree"
)

func number(name string, n int) api.Given { return api.Given{Name: name, V: tree.Num(n)} }

func text(name, s string) api.Given { return api.Given{Name: name, V: tree.Text(s)} }

// tags are a list of texts.
func tags(name string, l ...string) api.Given { return api.Given{Name: name, V: texts(l...)} }

func unknown(name string) api.Given { return api.Given{Name: name, Unknown: true} }

func texts(l ...string) api.Value {
	v := list()
	for _, s := range l {
		v.List = append(v.List, tree.Text(s))
	}
	return v
}

func list(parts ...api.Value) api.Value { return api.Value{Kind: api.List, List: parts} }

// object answers an object of keys, told with blanks between, and their values.
func object(keys string, parts ...api.Value) api.Value {
	return api.Value{Kind: api.Object, Keys: strings.Fields(keys), List: parts}
}

// many answers n times the same text.
func many(n int, s string) []string { return slices.Repeat([]string{s}, n) }

// deep answers a value that n lists are around.
func deep(n int, v api.Value) api.Value {
	for range n {
		v = list(v)
	}
	return v
}

// clone answers v in memory of its own.
func clone(v api.Value) api.Value {
	v.List, v.Keys = slices.Clone(v.List), slices.Clone(v.Keys)
	for i, part := range v.List {
		v.List[i] = clone(part)
	}
	return v
}

func clones(l []api.Given) []api.Given {
	l = slices.Clone(l)
	for i := range l {
		l[i].V = clone(l[i].V)
	}
	return l
}

// kindOf tells by the table which kind a property's values are of.
func kindOf(kind, name string) (int8, bool) {
	for _, spec := range specs(kind) {
		if spec.Name == name {
			return spec.Kind, true
		}
	}
	return 0, false
}

// goods are values that a property of a kind may have.
func goods(kind int8) []api.Value {
	switch kind {
	case api.Number:
		return []api.Value{tree.Num(0), tree.Num(1), tree.Num(-1), tree.Num(api.MaxNumber), tree.Num(-api.MaxNumber), {Kind: api.Number, List: []api.Value{}, Keys: []string{}}}
	case api.Text:
		return []api.Value{tree.Text(""), tree.Text("a"), tree.Text("\x00\n\"\\"), tree.Text("\u20ac"), tree.Text(strings.Repeat("w", api.MaxWord)), tree.Text(strings.Repeat("\u00e9", api.MaxWord/2)), {Kind: api.Text, Text: "b", List: []api.Value{}}}
	}
	return []api.Value{
		list(), {Kind: api.List, List: []api.Value{}}, {Kind: api.List, Keys: []string{}}, texts(""), texts("b", "a", "b"), texts(many(api.MaxList, "")...),
		texts(many(api.MaxList-1, strings.Repeat("w", api.MaxWord))...), texts(many(api.MaxList, strings.Repeat("w", api.MaxWord))...),
	}
}

// bads are values that a property of a kind may not have.
func bads(kind int8) []api.Value {
	long, cut := strings.Repeat("w", api.MaxWord+1), strings.Repeat("w", api.MaxWord-1)+"\u00e9"
	texty := []string{long, cut, strings.Repeat("w", 100000), "\xff", "a\xc3", "\xed\xa0\x80"}
	out := []api.Value{
		{}, {Kind: api.Bool}, {Kind: api.Bool, Bool: true}, object(""), object("a", tree.Num(1)), {Kind: 6}, {Kind: -1}, {Kind: 127}, {Kind: api.Object, Keys: []string{"a"}},
		{Kind: kind, Bool: true}, {Kind: kind, Keys: []string{""}}, {Kind: kind, Keys: []string{"a"}, List: []api.Value{{}}}, deep(api.MaxDeep, tree.Text("a")), deep(1000, list()),
	}
	if kind != api.Number {
		out = append(out, tree.Num(0), tree.Num(1), api.Value{Kind: kind, Num: 1}, api.Value{Kind: kind, Num: api.MaxNumber + 1})
	} else {
		out = append(out, tree.Num(api.MaxNumber+1), tree.Num(-api.MaxNumber-1), tree.Num(-1<<63))
	}
	if kind != api.Text {
		out = append(out, tree.Text(""), tree.Text("1"), api.Value{Kind: kind, Text: "1"})
	} else {
		for _, s := range texty {
			out = append(out, tree.Text(s))
		}
	}
	if kind != api.List {
		return append(out, list(), texts("a"), api.Value{Kind: kind, List: []api.Value{{}}}, api.Value{Kind: kind, List: []api.Value{tree.Text("a")}})
	}
	for _, n := range []int{api.MaxList + 1, api.MaxList + 2, api.MaxText + 1, 100000} {
		out = append(out, texts(many(n, "")...))
	}
	parts := []api.Value{{}, {Kind: api.Bool}, tree.Num(1), list(), texts("a"), object(""), {Kind: 6}, {Kind: api.Text, Num: 1}, {Kind: api.Text, Bool: true}, {Kind: api.Text, List: []api.Value{{}}}, {Kind: api.Text, Keys: []string{"a"}}}
	for _, s := range texty {
		parts = append(parts, tree.Text(s))
	}
	for _, part := range parts {
		out = append(out, list(part), list(part, tree.Text("a")), list(tree.Text("a"), part), list(tree.Text("a"), part, tree.Text("a")))
		out = append(out, list(append(texts(many(api.MaxList-1, "a")...).List, part)...))
	}
	return out
}

// marks are values that an unknown one may not have: all but zero.
func marks() []api.Value {
	out := []api.Value{{Bool: true}, {Num: 1}, {Num: -1}, {Text: " "}, {List: []api.Value{{}}}, {Keys: []string{""}}}
	for kind := int8(-1); kind < 8; kind++ {
		if kind != api.Null {
			out = append(out, api.Value{Kind: kind})
		}
	}
	for _, kind := range []int8{api.Number, api.Text, api.List} {
		out = append(out, goods(kind)...)
	}
	return out
}
