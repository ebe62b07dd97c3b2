package tree_test

import (
	"math"
	"strings"
	"testing"

	"hoarding/api"
	"hoarding/tree"
)

var (
	null = api.Value{}
	no   = api.Value{Kind: api.Bool}
	yes  = api.Value{Kind: api.Bool, Bool: true}
)

func list(parts ...api.Value) api.Value { return api.Value{Kind: api.List, List: parts} }

// object answers an object of keys, told with blanks between, and their values.
func object(keys string, parts ...api.Value) api.Value {
	return api.Value{Kind: api.Object, Keys: strings.Fields(keys), List: parts}
}

// chain answers lists within one another, n deep.
func chain(n int) api.Value { return chainOf(n, null, list()) }

// chainOf answers v, within so many like outer that the whole is n deep.
func chainOf(n int, v, outer api.Value) api.Value {
	for range n - 1 {
		outer.List = []api.Value{v}
		v = outer
	}
	return v
}

// many answers a value that is made of n values.
func many(n int) api.Value { return list(make([]api.Value, n-1)...) }

// endless answers a list that holds itself.
func endless() api.Value {
	v := list(null, null)
	v.List[1] = v
	return v
}

// same tells whether a and b are the same, field by field (nil and empty lists alike).
func same(a, b api.Value) bool {
	if a.Kind != b.Kind || a.Bool != b.Bool || a.Num != b.Num || a.Text != b.Text || len(a.List) != len(b.List) || len(a.Keys) != len(b.Keys) {
		return false
	}
	for i, key := range a.Keys {
		if key != b.Keys[i] {
			return false
		}
	}
	for i, part := range a.List {
		if !same(part, b.List[i]) {
			return false
		}
	}
	return true
}

// clone answers v in other memory.
func clone(v api.Value) api.Value {
	v.Keys = append([]string(nil), v.Keys...)
	parts := v.List
	v.List = nil
	for _, part := range parts {
		v.List = append(v.List, clone(part))
	}
	return v
}

// scribble writes over all lists of v, spare room with them, from inside out.
func scribble(v api.Value) {
	for _, part := range v.List {
		scribble(part)
	}
	parts, keys := v.List[:cap(v.List)], v.Keys[:cap(v.Keys)]
	for i := range parts {
		parts[i] = api.Value{Kind: 99, Text: "scribbled"}
	}
	for i := range keys {
		keys[i] = "scribbled"
	}
}

// wrongs answers values that may not be, and what is wrong with them.
func wrongs() map[string]struct {
	v api.Value
	e api.Errno
} {
	type row = struct {
		v api.Value
		e api.Errno
	}
	rows := map[string]row{
		"kind below":             {api.Value{Kind: -1}, api.ErrArg},
		"kind least":             {api.Value{Kind: math.MinInt8}, api.ErrArg},
		"kind above":             {api.Value{Kind: api.Object + 1}, api.ErrArg},
		"kind greatest":          {api.Value{Kind: math.MaxInt8}, api.ErrArg},
		"object without keys":    {api.Value{Kind: api.Object, List: []api.Value{null}}, api.ErrArg},
		"object without parts":   {api.Value{Kind: api.Object, Keys: []string{"a"}}, api.ErrArg},
		"one key too many":       {object("a b", null), api.ErrArg},
		"one key too few":        {object("a", null, null), api.ErrArg},
		"number above":           {tree.Num(api.MaxNumber + 1), api.ErrNumber},
		"number below":           {tree.Num(-api.MaxNumber - 1), api.ErrNumber},
		"number greatest":        {tree.Num(math.MaxInt), api.ErrNumber},
		"number least":           {tree.Num(math.MinInt), api.ErrNumber},
		"text that is none":      {tree.Text("\xff"), api.ErrText},
		"text that breaks off":   {tree.Text("ab\xe2\x82"), api.ErrText},
		"half of a pair":         {tree.Text("\xed\xa0\x80"), api.ErrText},
		"key that is none":       {object("\xff", null), api.ErrText},
		"second key that's none": {object("a b\xc0\x80", null, null), api.ErrText},
		"key twice":              {object("a a", null, null), api.ErrTwice},
		"key twice, apart":       {object("a b c a", null, null, null, null), api.ErrTwice},
		"empty key twice":        {api.Value{Kind: api.Object, Keys: []string{"", ""}, List: []api.Value{null, null}}, api.ErrTwice},
		// Several things wrong with one value.
		"too many keys, no text":   {object("\xff a", null), api.ErrArg},
		"too many keys, one twice": {object("a a", null), api.ErrArg},
		"great, and a text":        {api.Value{Kind: api.Number, Num: math.MaxInt, Text: "a"}, api.ErrArg},
		"no text, and a number":    {api.Value{Kind: api.Text, Num: 1, Text: "\xff"}, api.ErrArg},
		"null of a great number":   {api.Value{Num: math.MaxInt}, api.ErrArg},
		"list of a bad key":        {api.Value{Kind: api.List, Keys: []string{"\xff"}, List: []api.Value{null}}, api.ErrArg},
		"bad key behind one twice": {object("a a \xff", null, null, null), api.ErrText},
		"bad key twice":            {object("\xff \xff", null, null), api.ErrText},
		// Whole ahead of parts, parts in order.
		"text ahead of number":       {list(tree.Text("\xff"), tree.Num(math.MaxInt)), api.ErrText},
		"number ahead of text":       {list(tree.Num(math.MaxInt), tree.Text("\xff")), api.ErrNumber},
		"text ahead of kind":         {list(null, tree.Text("\xff"), api.Value{Kind: 9}), api.ErrText},
		"twice ahead of parts":       {object("a a", api.Value{Kind: 9}, tree.Text("\xff")), api.ErrTwice},
		"key ahead of parts":         {object("\xff", api.Value{Kind: 9}), api.ErrText},
		"fields ahead of parts":      {api.Value{Kind: api.List, Num: 1, List: []api.Value{tree.Num(math.MaxInt)}}, api.ErrArg},
		"part's part ahead of next":  {list(list(tree.Text("\xff")), tree.Num(math.MaxInt)), api.ErrText},
		"part ahead of next's part":  {list(tree.Num(math.MaxInt), list(tree.Text("\xff"))), api.ErrNumber},
		"whole list ahead of its":    {list(object("a a", null, null), api.Value{Kind: 9}), api.ErrTwice},
		"parts by places, not keys":  {object("b a", tree.Text("\xff"), tree.Num(math.MaxInt)), api.ErrText},
		"deep inside":                {chainOf(api.MaxDeep, tree.Num(math.MaxInt), list()), api.ErrNumber},
		"deep inside, with a sister": {list(chain(api.MaxDeep-1), object("a", object("b c b", null, null, null))), api.ErrTwice},
		// Too deep, ahead of all else.
		"one too deep":            {chain(api.MaxDeep + 1), api.ErrDeep},
		"objects one too deep":    {chainOf(api.MaxDeep+1, null, object("a")), api.ErrDeep},
		"too deep, nulls":         {chainOf(api.MaxDeep+1, null, null), api.ErrDeep},
		"too deep, kinds unknown": {chainOf(api.MaxDeep+1, null, api.Value{Kind: 9}), api.ErrDeep},
		"too deep, and wrong":     {list(api.Value{Kind: 9}, tree.Text("\xff"), chain(api.MaxDeep)), api.ErrDeep},
		"far too deep":            {chain(1000), api.ErrDeep},
		"deeper than is told":     {chain(1001), api.ErrDeep},
		"wrong, not too deep":     {chainOf(api.MaxDeep, null, null), api.ErrArg},
	}
	for _, kind := range []int8{api.Null, api.Bool, api.Number, api.Text, api.List, api.Object} {
		full := api.Value{Bool: true, Num: 1, Text: "a", List: []api.Value{null}, Keys: []string{"a"}}
		for field, v := range map[string]api.Value{
			"bool": {Bool: full.Bool}, "num": {Num: full.Num}, "text": {Text: full.Text}, "list": {List: full.List}, "keys": {Keys: full.Keys},
		} {
			if strings.Contains([]string{"", "bool", "num", "text", "list", "list keys"}[kind], field) {
				continue
			}
			v.Kind = kind
			rows["kind "+string('0'+rune(kind))+" with "+field] = row{v, api.ErrArg}
		}
	}
	return rows
}

// ordered answers values that may be, each ahead of the next in the order.
func ordered() []api.Value {
	return []api.Value{
		null,
		no, yes,
		tree.Num(-api.MaxNumber), tree.Num(-10), tree.Num(-9), tree.Num(-1), tree.Num(0), tree.Num(1), tree.Num(9), tree.Num(10), tree.Num(api.MaxNumber),
		tree.Text(""), tree.Text("\x00"), tree.Text(" "), tree.Text("10"), tree.Text("9"), tree.Text("A"), tree.Text("Z"), tree.Text("a"), tree.Text("a\x00"), tree.Text("aa"), tree.Text("ab"), tree.Text("b"),
		tree.Text("\u00e9"), tree.Text("\uffff"), tree.Text("\U00010000"),
		list(), list(null), list(null, null), list(null, list()), list(no), list(yes), list(tree.Num(-1), yes), list(tree.Num(1)), list(tree.Num(1), null), list(tree.Num(1), tree.Text("")), list(tree.Num(2)), list(tree.Num(10)), list(tree.Text("a")),
		list(list()), list(list(), null), list(list(null)), list(list(null), null), list(list(list())), list(object("")), list(object("a", null)), list(object("b", null)),
		object(""),
		api.Value{Kind: api.Object, Keys: []string{""}, List: []api.Value{yes}},
		api.Value{Kind: api.Object, Keys: []string{"a", ""}, List: []api.Value{null, null}},
		object("A", tree.Num(5)),
		object("a", null), object("a", no), object("a", tree.Num(1)), object("a", tree.Num(2)), object("a", list()), object("a", object("")), object("a", object("b", null)),
		// The keys a, b begin with the key a: whatever the values are.
		object("a b", null, null), object("b a", yes, null), object("b a", tree.Text("x"), null), object("b a", null, tree.Num(1)), object("a b", tree.Num(1), yes), object("a b", tree.Num(2), null),
		// Other keys go ahead of other values.
		object("b c a", null, null, null), object("a c", null, null), object("c a", yes, null), object("c a", null, tree.Num(1)), object("aa", null), object("b", null), object("b", object("x y", tree.Num(1), tree.Num(2))), object("b", object("y x", tree.Num(1), tree.Num(2))), object("c b", null, null), object("\u00e9", null), object("\uffff", null), object("\U00010000", null),
	}
}

// TestHelpers holds these helpers to what they say.
func TestHelpers(t *testing.T) {
	if !same(chain(3), list(list(null))) || !same(chainOf(1, yes, list()), yes) || !same(many(3), list(null, null)) {
		t.Error("chain, many")
	}
	if same(list(null), list(no)) || same(object("a", null), object("b", null)) || same(tree.Num(1), tree.Num(2)) {
		t.Error("same")
	}
	v := object("a b", list(tree.Num(1)), yes)
	w := clone(v)
	scribble(v)
	if !same(w, object("a b", list(tree.Num(1)), yes)) || same(v, w) {
		t.Error("clone, scribble")
	}
}
