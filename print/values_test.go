package print_test

import (
	"bytes"
	"encoding/json"
	"slices"
	"strings"
	"testing"

	"hoarding/api"
	"hoarding/print"
	"hoarding/tree"
)

const longest = 8 * api.MaxText

var (
	null = api.Value{}
	no   = api.Value{Kind: api.Bool}
	yes  = api.Value{Kind: api.Bool, Bool: true}
)

func list(parts ...api.Value) api.Value { return api.Value{Kind: api.List, List: parts} }

// object answers an object of keys, told with commas between, and their values.
func object(keys string, parts ...api.Value) api.Value {
	return api.Value{Kind: api.Object, Keys: strings.Split(keys, ","), List: parts}
}

// nothing is an object without entries.
func nothing() api.Value { return api.Value{Kind: api.Object} }

// within answers v, within so many like outer that the whole is n deeper.
func within(n int, v, outer api.Value) api.Value {
	for range n {
		outer.List = []api.Value{v}
		v = outer
	}
	return v
}

// same tells whether a and b are the same, field by field (nil and empty lists alike).
func same(a, b api.Value) bool {
	return a.Kind == b.Kind && a.Bool == b.Bool && a.Num == b.Num && a.Text == b.Text && slices.Equal(a.Keys, b.Keys) && slices.EqualFunc(a.List, b.List, same)
}

// roomy answers v in other memory, with room to spare behind each list, in which something stands.
func roomy(v api.Value) api.Value {
	room := list(append(slices.Clone(v.List), tree.Text("room"))...)
	for i, part := range v.List {
		room.List[i] = roomy(part)
	}
	v.List = room.List[:len(v.List)]
	v.Keys = append(slices.Clone(v.Keys), "room")[:len(v.Keys)]
	return v
}

// small answers values of all kinds that are at most 2 deep, objects with their keys in each order among them.
func small() []api.Value {
	parts := []api.Value{null, no, yes, tree.Num(0), tree.Num(-10), tree.Text(""), tree.Text("a\"\n"), list(), nothing()}
	all := slices.Clone(parts)
	keys := []string{"", "a", "aa"}
	for _, a := range parts {
		all = append(all, list(a))
		for _, key := range keys {
			all = append(all, object(key, a))
		}
		for _, b := range parts {
			all = append(all, list(a, b))
			for _, first := range keys {
				for _, second := range keys {
					if first != second {
						all = append(all, object(first+","+second, a, b))
					}
				}
			}
		}
	}
	return all
}

// great answers values that are deeper, or greater, than the small ones, or hold stranger texts.
func great() []api.Value {
	letters := strings.Split("m,z,a,Z,\u20ac,\u00e9,\U0001F600,\uffff,\",\\,\n,\x00,\x7f,9,10,aa", ",")
	zeros := make([]api.Value, len(letters))
	for i := range zeros {
		zeros[i] = tree.Num(i)
	}
	many := api.Value{Kind: api.Object, Keys: letters, List: zeros}
	turned := api.Value{Kind: api.Object, Keys: slices.Clone(letters), List: slices.Clone(zeros)}
	slices.Reverse(turned.Keys)
	slices.Reverse(turned.List)
	all := []api.Value{
		many, turned,
		list(tree.Num(api.MaxNumber), tree.Num(-api.MaxNumber), tree.Num(7), tree.Num(-1)),
		list(many, list(turned, object("y,x", many, list())), nothing()),
		object("d,c,b,a", object("b,a", object("b,a", object("b,a", yes, no), null), list(list(list(object("b,a", list(), nothing()))))), tree.Num(1), tree.Text("x"), list(yes)),
		within(api.MaxDeep-1, null, list()),
		within(api.MaxDeep-1, list(), object("a")),
		within(api.MaxDeep-2, object("b,a", nothing(), list()), object("\u20ac")),
		list(make([]api.Value, api.MaxText-1)...),
		list(make([]api.Value, 300)...),
	}
	for _, letter := range letters {
		all = append(all, tree.Text(letter), tree.Text(letter+letter+" "), object(letter, tree.Text(letter)))
	}
	return all
}

// jsonTexts answers the texts that JSON has for v: without blanks, and broad.
func jsonTexts(t *testing.T, v api.Value) (plain, broad string) {
	t.Helper()
	var b, wide bytes.Buffer
	coder := json.NewEncoder(&b)
	coder.SetEscapeHTML(false)
	if err := coder.Encode(goValue(v)); err != nil {
		t.Fatal(err)
	}
	plain = strings.TrimSuffix(b.String(), "\n")
	if err := json.Indent(&wide, []byte(plain), "", "  "); err != nil {
		t.Fatal(err)
	}
	return plain, wide.String()
}

// goValue answers v as package json takes it.
func goValue(v api.Value) any {
	switch v.Kind {
	case api.Bool:
		return v.Bool
	case api.Number:
		return v.Num
	case api.Text:
		return v.Text
	case api.List:
		out := []any{}
		for _, part := range v.List {
			out = append(out, goValue(part))
		}
		return out
	case api.Object:
		out := map[string]any{}
		for i, part := range v.List {
			out[v.Keys[i]] = goValue(part)
		}
		return out
	}
	return nil
}

// prints asks that v is printed so, and so broadly.
func prints(t *testing.T, v api.Value, plain, broad string) {
	t.Helper()
	if s, e := print.Print(v); s != plain || e != api.OK {
		t.Errorf("Print(%.99v): %.99q, %d; asked: %.99q", v, s, e, plain)
	}
	if n := print.Len(v); n != len(plain) {
		t.Errorf("Len(%.99v): %d; asked: %d", v, n, len(plain))
	}
	if s, e := print.Broad(v); s != broad || e != api.OK {
		t.Errorf("Broad(%.99v): %.99q, %d; asked: %.99q", v, s, e, broad)
	}
}

// refuses asks that Print and Broad answer e alone, and Len nothing.
func refuses(t *testing.T, name string, v api.Value, e api.Errno) {
	t.Helper()
	if s, got := print.Print(v); s != "" || got != e {
		t.Errorf("Print, %s: %.99q, %d; asked: %d", name, s, got, e)
	}
	if s, got := print.Broad(v); s != "" || got != e {
		t.Errorf("Broad, %s: %.99q, %d; asked: %d", name, s, got, e)
	}
	if n := print.Len(v); n != 0 {
		t.Errorf("Len, %s: %d", name, n)
	}
}
