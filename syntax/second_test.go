package syntax_test

import (
	"maps"
	"regexp"
	"slices"
	"strconv"

	"hoarding/api"
	holed "hoarding/sub"
	"hoarding/tree"
)

// A second reading of the chapter: all that is wrong with a value, in the order in which it is to be told, and what is written of one that is right.

// wrong is a fault and where it is.
type wrong struct {
	at string
	e  api.Errno
}

var name = regexp.MustCompile(`^[A-Za-z][0-9A-Za-z]{0,31}$`)

// first answers the first of v's faults; nothing wrong, if there is none.
func first(v api.Value, l []wrong) wrong {
	if e := tree.Check(v); e != api.OK {
		return wrong{"", e}
	}
	return append(l, wrong{})[0]
}

// step answers the place of what stands under the key, or at the place.
func step(at, key string) string {
	if at == "" {
		return key
	}
	return at + "/" + key
}

// get answers what the object has under its keys.
func get(v api.Value) map[string]api.Value {
	m := map[string]api.Value{}
	for i, key := range v.Keys {
		m[key] = v.List[i]
	}
	return m
}

// unless answers the fault, if it is not ok.
func unless(ok bool, at string, e api.Errno) []wrong {
	if ok {
		return nil
	}
	return []wrong{{at, e}}
}

// inOrder answers the faults of the list's parts, from the place from on.
func inOrder(v api.Value, at string, from int, faults func(v api.Value, at string) []wrong) (l []wrong) {
	for i := from; i < len(v.List); i++ {
		l = append(l, faults(v.List[i], step(at, strconv.Itoa(i)))...)
	}
	return l
}

func isName(v api.Value) bool { return v.Kind == api.Text && name.MatchString(v.Text) }

func isWord(v api.Value) bool { return v.Kind == api.Text && len(v.Text) <= 64 }

func isList(v api.Value, least, most int) bool {
	return v.Kind == api.List && len(v.List) >= least && len(v.List) <= most
}

// wrongExpr answers what is wrong with an expression.
func wrongExpr(v api.Value, at string) []wrong {
	switch {
	case v.Kind == api.Number || isWord(v):
		return nil
	case v.Kind == api.List:
		return append(unless(len(v.List) <= 8, at, api.ErrLong), inOrder(v, at, 0, wrongExpr)...)
	case v.Kind != api.Object || len(v.Keys) != 1:
		return []wrong{{at, api.ErrShape}}
	}
	key, x := v.Keys[0], v.List[0]
	at = step(at, key)
	no := []wrong{{at, api.ErrShape}}
	lists := map[string]int{"GetAtt": 2, "If": 3, "Join": 2, "Select": 2}
	if n, ok := lists[key]; ok && !isList(x, n, n) {
		return no
	}
	switch key {
	case "Ref":
		return unless(isName(x), at, api.ErrShape)
	case "Sub":
		if x.Kind != api.Text {
			return no
		}
		_, _, e := holed.Lex(x.Text)
		return unless(e == api.OK, at, e)
	case "GetAtt":
		attr := x.List[1]
		ok := attr.Kind == api.Text && (name.MatchString(attr.Text) || len(attr.Text) > 8 && attr.Text[:8] == "Outputs." && name.MatchString(attr.Text[8:]))
		return unless(isName(x.List[0]) && ok, at, api.ErrShape)
	case "If":
		return append(unless(isName(x.List[0]), at, api.ErrShape), inOrder(x, at, 1, wrongExpr)...)
	case "Join":
		return append(unless(isWord(x.List[0]), at, api.ErrShape), inOrder(x, at, 1, wrongExpr)...)
	case "Select":
		return inOrder(x, at, 0, wrongExpr)
	}
	return no
}

// others answers the keys that are none of these.
func others(v api.Value, at string, keys ...string) (l []wrong) {
	for _, key := range slices.Sorted(slices.Values(v.Keys)) {
		if !slices.Contains(keys, key) {
			l = append(l, wrong{step(at, key), api.ErrSection})
		}
	}
	return l
}

// byNames answers what is wrong with an object of names.
func byNames(v api.Value, at string, faults func(v api.Value, at string) []wrong) (l []wrong) {
	if v.Kind != api.Object {
		return []wrong{{at, api.ErrSection}}
	}
	m := get(v)
	for _, key := range slices.Sorted(maps.Keys(m)) {
		l = append(l, unless(name.MatchString(key), step(at, key), api.ErrSection)...)
		l = append(l, faults(m[key], step(at, key))...)
	}
	return l
}

// wrongTemplate answers what is wrong with a template that stands so many templates within another.
func wrongTemplate(v api.Value, at string, nest int) []wrong {
	if v.Kind != api.Object {
		return []wrong{{at, api.ErrSection}}
	}
	l := others(v, at, "Parameters", "Conditions", "Resources", "Outputs")
	resource := func(v api.Value, at string) []wrong { return wrongResource(v, at, nest) }
	for _, s := range []struct {
		key    string
		most   int
		faults func(v api.Value, at string) []wrong
	}{{"Parameters", 6, wrongParam}, {"Conditions", 6, wrongDefined}, {"Resources", 8, resource}, {"Outputs", 6, wrongOutput}} {
		if x, ok := get(v)[s.key]; ok {
			l = append(l, unless(x.Kind != api.Object || len(x.List) <= s.most, step(at, s.key), api.ErrLong)...)
			l = append(l, byNames(x, step(at, s.key), s.faults)...)
		}
	}
	return l
}

// wrongParam answers what is wrong with a parameter's definition.
func wrongParam(v api.Value, at string) []wrong {
	if v.Kind != api.Object {
		return []wrong{{at, api.ErrSection}}
	}
	l := others(v, at, "Type", "Default", "AllowedValues")
	m := get(v)
	kind, ok := m["Type"]
	l = append(l, unless(ok, at, api.ErrSection)...)
	l = append(l, unless(kind.Text == "String" || kind.Text == "Number", at+"/Type", api.ErrSection)...)
	may := isWord
	if kind.Text == "Number" {
		may = func(v api.Value) bool { return v.Kind == api.Number }
	}
	if x, ok := m["Default"]; ok {
		l = append(l, unless(may(x), at+"/Default", api.ErrSection)...)
	}
	if x, ok := m["AllowedValues"]; ok {
		at += "/AllowedValues"
		l = append(l, unless(isList(x, 1, 1<<30), at, api.ErrSection)...)
		l = append(l, inOrder(x, at, 0, func(v api.Value, at string) []wrong { return unless(may(v), at, api.ErrSection) })...)
		l = append(l, unless(len(x.List) <= 8, at, api.ErrLong)...)
	}
	return l
}

// wrongDefined answers what is wrong with a condition's definition.
func wrongDefined(v api.Value, at string) []wrong {
	l := wrongCond(v, at)
	if len(v.Keys) == 1 && v.Keys[0] == "Condition" {
		l = append([]wrong{{at + "/Condition", api.ErrSection}}, l...)
	}
	return l
}

// wrongCond answers what is wrong with a condition.
func wrongCond(v api.Value, at string) []wrong {
	if v.Kind != api.Object {
		return []wrong{{at, api.ErrSection}}
	}
	l := append(others(v, at, "Equals", "And", "Or", "Not", "Condition"), unless(len(v.Keys) == 1, at, api.ErrSection)...)
	if len(l) > 0 {
		return l
	}
	key, x := v.Keys[0], v.List[0]
	at += "/" + key
	switch key {
	case "Equals":
		return append(unless(isList(x, 2, 2), at, api.ErrSection), inOrder(x, at, 0, wrongExpr)...)
	case "Not":
		return append(unless(isList(x, 1, 1), at, api.ErrSection), inOrder(x, at, 0, wrongCond)...)
	case "Condition":
		return unless(isName(x), at, api.ErrSection)
	}
	return append(unless(isList(x, 1, 4), at, api.ErrSection), inOrder(x, at, 0, wrongCond)...)
}

// wrongOutput answers what is wrong with an output's definition.
func wrongOutput(v api.Value, at string) []wrong {
	if v.Kind != api.Object {
		return []wrong{{at, api.ErrSection}}
	}
	l := others(v, at, "Value", "Condition")
	m := get(v)
	x, ok := m["Value"]
	l = append(l, unless(ok, at, api.ErrSection)...)
	l = append(l, wrongExpr(x, at+"/Value")...)
	if x, ok := m["Condition"]; ok {
		l = append(l, unless(isName(x), at+"/Condition", api.ErrSection)...)
	}
	return l
}

// wrongResource answers what is wrong with a resource's definition in a template that stands so many templates within another.
func wrongResource(v api.Value, at string, nest int) []wrong {
	if v.Kind != api.Object {
		return []wrong{{at, api.ErrSection}}
	}
	l := others(v, at, "Type", "Condition", "DependsOn", "DeletionPolicy", "Properties")
	m := get(v)
	kind, ok := m["Type"]
	l = append(l, unless(ok, at, api.ErrSection)...)
	l = append(l, unless(isName(kind), at+"/Type", api.ErrSection)...)
	if x, ok := m["Condition"]; ok {
		l = append(l, unless(isName(x), at+"/Condition", api.ErrSection)...)
	}
	if x, ok := m["DependsOn"]; ok {
		l = append(l, wrongDepends(x, at+"/DependsOn")...)
	}
	if x, ok := m["DeletionPolicy"]; ok {
		l = append(l, unless(x.Text == "Delete" || x.Text == "Retain", at+"/DeletionPolicy", api.ErrSection)...)
	}
	props, ok := m["Properties"]
	switch {
	case kind.Text == "Stack" && !ok:
		l = append(l, wrong{at, api.ErrSection})
	case kind.Text == "Stack":
		l = append(l, wrongNested(props, at+"/Properties", nest+1)...)
	case ok:
		l = append(l, byNames(props, at+"/Properties", wrongExpr)...)
	}
	return l
}

// wrongDepends answers what is wrong with what a resource depends on.
func wrongDepends(v api.Value, at string) []wrong {
	if v.Kind != api.List {
		return unless(isName(v), at, api.ErrSection)
	}
	l := inOrder(v, at, 0, func(v api.Value, at string) []wrong { return unless(isName(v), at, api.ErrSection) })
	l = append(l, unless(len(v.List) <= 8, at, api.ErrLong)...)
	for i, x := range v.List {
		for _, y := range v.List[:i] {
			l = append(l, unless(x.Text != y.Text, step(at, strconv.Itoa(i)), api.ErrTwice)...)
		}
	}
	return l
}

// wrongNested answers what is wrong with the Properties of a nested stack whose template stands so many templates within another.
func wrongNested(v api.Value, at string, nest int) []wrong {
	if v.Kind != api.Object {
		return []wrong{{at, api.ErrSection}}
	}
	l := others(v, at, "Template", "Parameters")
	m := get(v)
	x, ok := m["Template"]
	l = append(l, unless(ok, at, api.ErrSection)...)
	l = append(l, unless(nest <= 2, at+"/Template", api.ErrNest)...)
	l = append(l, wrongTemplate(x, at+"/Template", nest)...)
	if x, ok := m["Parameters"]; ok {
		l = append(l, byNames(x, at+"/Parameters", wrongExpr)...)
	}
	return l
}

// shown answers the value with its objects as maps, each part by the function part, but for those that are nil.
func shown(v api.Value, part func(key string, v api.Value) any) any {
	switch v.Kind {
	case api.Number:
		return v.Num
	case api.Text:
		return v.Text
	case api.List:
		l := []any{}
		for _, x := range v.List {
			l = append(l, part("", x))
		}
		return l
	}
	m := map[string]any{}
	for key, x := range get(v) {
		if shown := part(key, x); shown != nil {
			m[key] = shown
		}
	}
	return m
}

// asItIs shows a value.
func asItIs(_ string, v api.Value) any { return shown(v, asItIs) }

// asTemplate shows what is written of a template; key is ahead of it, where it is nested.
func asTemplate(key string, v api.Value) any {
	return shown(v, func(section string, v api.Value) any {
		if len(v.List) == 0 {
			return nil
		}
		return shown(v, func(_ string, v api.Value) any {
			return shown(v, func(key string, x api.Value) any { return asField(section, key, x, get(v)["Type"].Text) })
		})
	})
}

// asField shows what is written under a definition's key.
func asField(section, key string, v api.Value, kind string) any {
	switch {
	case section != "Resources":
		return asItIs(key, v)
	case key == "DependsOn" && v.Kind == api.Text:
		return []any{v.Text}
	case key == "DependsOn" && len(v.List) == 0, key == "DeletionPolicy" && v.Text == "Delete", key == "Properties" && len(v.List) == 0:
		return nil
	case key == "Properties" && kind == "Stack":
		return shown(v, func(key string, v api.Value) any {
			switch {
			case key == "Template":
				return asTemplate(key, v)
			case len(v.List) == 0:
				return nil
			}
			return asItIs(key, v)
		})
	}
	return asItIs(key, v)
}
