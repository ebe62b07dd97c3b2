package syntax_test

import (
	"reflect"
	"strings"
	"testing"

	"hoarding/api"
	"hoarding/print"
	"hoarding/syntax"
	"hoarding/tree"
)

// writes wants the template to be written as the value s, which is told sorted, and that to be read as the template.
func writes(t *testing.T, x api.Template, s string) {
	t.Helper()
	if got, e := syntax.Write(x); !same(got, value(s)) || e != api.OK {
		text, _ := print.Print(got)
		t.Errorf("Write(%+v): %.300s, %d; not %.300s", x, text, e, s)
	}
	reads(t, s, x)
}

// writesExpr wants the expression to be written as the value s, and that to be read as the expression.
func writesExpr(t *testing.T, x api.Expr, s string) {
	t.Helper()
	if got, e := syntax.WriteExpr(x); !same(got, value(s)) || e != api.OK {
		text, _ := print.Print(got)
		t.Errorf("WriteExpr(%+v): %.300s, %d; not %.300s", x, text, e, s)
	}
	isExpr(t, s, x)
}

// writesNone wants Write to refuse the template.
func writesNone(t *testing.T, name string, x api.Template) {
	t.Helper()
	if got, e := syntax.Write(x); !same(got, api.Value{}) || e != api.ErrShape {
		t.Errorf("Write, %s: %+v, %d", name, got, e)
	}
}

// writesNoExpr wants WriteExpr to refuse the expression, and Write to refuse it wherever it stands in a template.
func writesNoExpr(t *testing.T, name string, x api.Expr) {
	t.Helper()
	if got, e := syntax.WriteExpr(x); !same(got, api.Value{}) || e != api.ErrShape {
		t.Errorf("WriteExpr, %s: %+v, %d", name, got, e)
	}
	for _, outer := range []api.Expr{list(x), list(num(1), x), when("C", x, num(1)), when("C", num(1), x), join("-", x), choose(x, list()), choose(num(0), x)} {
		if got, e := syntax.WriteExpr(outer); !same(got, api.Value{}) || e != api.ErrShape {
			t.Errorf("WriteExpr, %s within %+v: %+v, %d", name, outer, got, e)
		}
	}
	prop := []api.Prop{{Name: "A", E: x}}
	for _, outer := range []api.Template{
		{Conds: []api.Cond{named("C", equals(x, num(1)))}},
		{Conds: []api.Cond{named("C", conds(api.CoNot, equals(num(1), x)))}},
		{Res: []api.Resource{{Id: "R", Type: "Disk", Props: prop}}},
		{Res: []api.Resource{{Id: "R", Type: "Stack", Props: prop, Inner: make([]api.Template, 1)}}},
		{Outs: []api.Output{{Name: "O", E: x}}},
	} {
		writesNone(t, name, outer)
		writesNone(t, name+", nested", api.Template{Res: []api.Resource{{Id: "N", Type: "Stack", Inner: []api.Template{outer}}}})
	}
}

// P13.3: expressions of each kind, as they are written.
func TestWriteExprs(t *testing.T) {
	for s, x := range map[string]api.Expr{
		"''":                            text(""),
		"'a'":                           text("a"),
		"'${'":                          text("${"),
		"'" + word(api.MaxWord) + "'":   text(word(api.MaxWord)),
		"0":                             num(0),
		"-9007199254740992":             num(-api.MaxNumber),
		"9007199254740992":              num(api.MaxNumber),
		"[]":                            list(),
		"[1,['a',[]],'a']":              list(num(1), list(text("a"), list()), text("a")),
		"[" + many(8, "1") + "]":        list(num(1), num(1), num(1), num(1), num(1), num(1), num(1), num(1)),
		"{'Ref':'A'}":                   ref("A"),
		"{'Ref':'" + longest() + "'}":   ref(longest()),
		"{'GetAtt':['A','Arn']}":        att("A", "Arn"),
		"{'GetAtt':['A','Outputs.B']}":  att("A", "Outputs.B"),
		"{'Sub':''}":                    sub(),
		"{'Sub':'a${B}${C.Outputs.D}'}": sub(text("a"), ref("B"), att("C", "Outputs.D")),
		"{'Sub':'${!x}${A}'}":           sub(text("${x}"), ref("A")),
		"{'Sub':'" + word(4096) + "'}":  sub(text(word(4096))),
		"{'If':['C',1,{'Ref':'A'}]}":    when("C", num(1), ref("A")),
		"{'Join':['-',[]]}":             join("-", list()),
		"{'Join':['',1]}":               join("", num(1)),
		"{'Select':[{'Select':[0,1]},{'If':['C',1,{'Sub':'a'}]}]}": choose(choose(num(0), num(1)), when("C", num(1), sub(text("a")))),
	} {
		writesExpr(t, x, s)
	}
}

// P13.3: templates, as they are written: what is empty, and what goes without saying, is left out.
func TestWriteTemplates(t *testing.T) {
	writes(t, api.Template{}, "{}")
	writes(t, api.Template{Params: []api.Param{}, Conds: []api.Cond{}, Res: []api.Resource{}, Outs: []api.Output{}}, "{}")
	for s, x := range map[string]api.Param{
		"{'Type':'String'}":                                               {},
		"{'Type':'Number'}":                                               {Number: true, Allowed: []api.Value{}},
		"{'Default':'','Type':'String'}":                                  {Has: true, Default: tree.Text("")},
		"{'Default':0,'Type':'Number'}":                                   {Number: true, Has: true, Default: tree.Num(0)},
		"{'AllowedValues':['b','a','b'],'Default':'c','Type':'String'}":   {Has: true, Default: tree.Text("c"), Allowed: []api.Value{tree.Text("b"), tree.Text("a"), tree.Text("b")}},
		"{'AllowedValues':[" + many(8, "#") + "],'Type':'Number'}":        {Number: true, Allowed: value("[0,1,2,3,4,5,6,7]").List},
		"{'AllowedValues':['" + word(api.MaxWord) + "'],'Type':'String'}": {Allowed: []api.Value{tree.Text(word(api.MaxWord))}},
	} {
		x.Name = "P"
		writes(t, api.Template{Params: []api.Param{x}}, "{'Parameters':{'P':"+s+"}}")
	}
	for s, x := range map[string]api.Cond{
		"{'Equals':['',0]}":                                                 equals(text(""), num(0)),
		"{'And':[{'Condition':'D'}]}":                                       conds(api.CoAnd, cond("D")),
		"{'Or':[" + many(4, "{'Condition':'D'}") + "]}":                     conds(api.CoOr, cond("D"), cond("D"), cond("D"), cond("D")),
		"{'Not':[{'Not':[{'And':[{'Condition':'D'},{'Equals':[1,[]]}]}]}]}": conds(api.CoNot, conds(api.CoNot, conds(api.CoAnd, cond("D"), equals(num(1), list())))),
	} {
		writes(t, api.Template{Conds: []api.Cond{named("C", x)}}, "{'Conditions':{'C':"+s+"}}")
	}
	for s, x := range map[string]api.Resource{
		"{'Type':'Disk'}": {Type: "Disk", Depends: []string{}, Props: []api.Prop{}, Inner: []api.Template{}},
		"{'Condition':'C','DeletionPolicy':'Retain','DependsOn':['A'],'Properties':{'Size':1},'Type':'Disk'}": {Type: "Disk", Cond: "C", Retain: true, Depends: []string{"A"}, Props: []api.Prop{{Name: "Size", E: num(1)}}},
		"{'DependsOn':['C','A'],'Type':'Net'}":                             {Type: "Net", Depends: []string{"C", "A"}},
		"{'DependsOn':[" + many(8, "'A#'") + "],'Type':'Net'}":             {Type: "Net", Depends: []string{"A0", "A1", "A2", "A3", "A4", "A5", "A6", "A7"}},
		"{'Properties':{'Template':{}},'Type':'Stack'}":                    {Type: "Stack", Inner: make([]api.Template, 1)},
		"{'Properties':{'Template':'','Zone':{'Ref':'A'}},'Type':'stack'}": {Type: "stack", Props: []api.Prop{{Name: "Template", E: text("")}, {Name: "Zone", E: ref("A")}}},
		"{'DeletionPolicy':'Retain','Properties':{'Parameters':{'P':1,'Q':2},'Template':{'Outputs':{'O':{'Value':1}}}},'Type':'Stack'}": {
			Type: "Stack", Retain: true, Props: []api.Prop{{Name: "P", E: num(1)}, {Name: "Q", E: num(2)}}, Inner: []api.Template{{Outs: []api.Output{{Name: "O", E: num(1)}}}},
		},
	} {
		x.Id = "R"
		writes(t, api.Template{Res: []api.Resource{x}}, "{'Resources':{'R':"+s+"}}")
	}
	writes(t, api.Template{Outs: []api.Output{{Name: "A", E: num(1)}, {Name: "B", Cond: "C", E: list()}}}, "{'Outputs':{'A':{'Value':1},'B':{'Condition':'C','Value':[]}}}")
	deep := api.Template{}
	for n := range api.MaxNest + 1 {
		s, _ := inner(n, "{}")
		writes(t, deep, s)
		deep = api.Template{Res: []api.Resource{{Id: "N", Type: "Stack", Inner: []api.Template{deep}}}}
	}
	writesNone(t, "nested too deep", deep)
	writes(t, sample(), "{'Conditions':{'C':{'And':[{'Equals':[{'Ref':'P'},'a']},{'Condition':'D'}]},'D':{'Not':[{'Equals':[1,2]}]}},"+
		"'Outputs':{'O':{'Condition':'C','Value':{'GetAtt':['A','Arn']}},'Q':{'Value':{'Select':[0,[1,{'Ref':'A'}]]}}},"+
		"'Parameters':{'P':{'AllowedValues':['a','b'],'Default':'a','Type':'String'},'Q':{'AllowedValues':[1],'Default':1,'Type':'Number'}},"+
		"'Resources':{'A':{'Type':'Disk'},'N':{'Condition':'C','DeletionPolicy':'Retain','DependsOn':['A','R'],"+
		"'Properties':{'Parameters':{'S':{'If':['C',1,{'Sub':'x${P}'}]}},'Template':{'Conditions':{'E':{'Or':[{'Equals':['a',{'Ref':'S'}]}]}},'Outputs':{'U':{'Value':{'Join':['-',['a',{'Ref':'B'}]]}}},"+
		"'Parameters':{'S':{'Type':'String'}},'Resources':{'B':{'DependsOn':['M'],'Properties':{'Size':2},'Type':'Disk'},'M':{'Properties':{'Template':{'Outputs':{'V':{'Condition':'F','Value':'v'}}}},'Type':'Stack'}}}},'Type':'Stack'},"+
		"'R':{'Condition':'D','DependsOn':['A'],'Properties':{'Port':80,'Tags':['a','b']},'Type':'Rule'}}}")
}

// sample is a template that has something in each field of each kind, at each level.
func sample() api.Template {
	innermost := api.Template{Outs: []api.Output{{Name: "V", Cond: "F", E: text("v")}}}
	nested := api.Template{
		Params: []api.Param{{Name: "S"}},
		Conds:  []api.Cond{named("E", conds(api.CoOr, equals(text("a"), ref("S"))))},
		Res: []api.Resource{
			{Id: "B", Type: "Disk", Depends: []string{"M"}, Props: []api.Prop{{Name: "Size", E: num(2)}}},
			{Id: "M", Type: "Stack", Inner: []api.Template{innermost}},
		},
		Outs: []api.Output{{Name: "U", E: join("-", list(text("a"), ref("B")))}},
	}
	return api.Template{
		Params: []api.Param{
			{Name: "P", Has: true, Default: tree.Text("a"), Allowed: []api.Value{tree.Text("a"), tree.Text("b")}},
			{Name: "Q", Number: true, Has: true, Default: tree.Num(1), Allowed: []api.Value{tree.Num(1)}},
		},
		Conds: []api.Cond{
			named("C", conds(api.CoAnd, equals(ref("P"), text("a")), cond("D"))),
			named("D", conds(api.CoNot, equals(num(1), num(2)))),
		},
		Res: []api.Resource{
			{Id: "A", Type: "Disk"},
			{Id: "N", Type: "Stack", Cond: "C", Retain: true, Depends: []string{"A", "R"}, Props: []api.Prop{{Name: "S", E: when("C", num(1), sub(text("x"), ref("P")))}}, Inner: []api.Template{nested}},
			{Id: "R", Type: "Rule", Cond: "D", Depends: []string{"A"}, Props: []api.Prop{{Name: "Port", E: num(80)}, {Name: "Tags", E: list(text("a"), text("b"))}}},
		},
		Outs: []api.Output{
			{Name: "O", Cond: "C", E: att("A", "Arn")},
			{Name: "Q", E: choose(num(0), list(num(1), ref("A")))},
		},
	}
}

// change calls deal for each of x's fields (but lists), at every depth, while it has another value than it had.
func change(v reflect.Value, path string, deal func(path string)) {
	switch v.Kind() {
	case reflect.Struct:
		for i := range v.NumField() {
			change(v.Field(i), path+"."+v.Type().Field(i).Name, deal)
		}
	case reflect.Slice:
		for i := range v.Len() {
			change(v.Index(i), path, deal)
		}
	case reflect.String:
		was := v.String()
		v.SetString(was + "!")
		deal(path)
		v.SetString(was)
	case reflect.Bool:
		was := v.Bool()
		v.SetBool(!was)
		deal(path)
		v.SetBool(was)
	default:
		was := v.Int()
		for _, n := range []int64{1, -1, 77} {
			v.SetInt(was + n)
			deal(path)
		}
		v.SetInt(was)
	}
}

// P13.3: expressions that nothing reads.
func TestWriteNoExprs(t *testing.T) {
	for name, x := range map[string]api.Expr{
		"a kind below 0": {Kind: -1}, "the least kind": {Kind: -128}, "a kind above": {Kind: api.ExSelect + 1}, "the greatest kind": {Kind: 127, L: exprs{num(1), num(2)}},
		"a long text": text(word(api.MaxWord + 1)), "a very long text": text(word(100000)), "no text": text("\xff"), "half a text": text("a\xe2\x82"),
		"a great number": num(api.MaxNumber + 1), "a number far below": num(-1 << 63), "a number below": num(-api.MaxNumber - 1),
		"a long list": {Kind: api.ExList, L: make(exprs, api.MaxList+1)}, "a very long list": {Kind: api.ExList, L: make(exprs, 100000)},
		"Ref of nothing": ref(""), "Ref of no name": ref("1"), "Ref of a long name": ref(tooLong()), "Ref of no text": ref("A\xff"), "Ref of two": ref("A B"),
		"GetAtt of nothing": att("", "Arn"), "GetAtt of no name": att("1", "Arn"), "GetAtt of no attribute": att("A", ""), "GetAtt of what is none": att("A", "B.C"), "GetAtt of Outputs.": att("A", "Outputs."), "GetAtt of a long one": att("A", tooLong()),
		"Sub of two texts": sub(text("a"), text("b")), "Sub of an empty text": sub(text("")), "Sub of a number": sub(num(1)), "Sub of a list": sub(list()), "Sub of a Sub": sub(sub()), "Sub of no name": sub(ref("1")), "Sub of no attribute": sub(att("A", "B.C")), "Sub of an open hole": sub(text("a${"), ref("A")), "Sub of no text": sub(text("\xff")), "Sub of a long text": sub(text(word(api.MaxText + 1))), "Sub of a part with parts": sub(api.Expr{Kind: api.ExText, Text: "a", L: exprs{num(1)}}), "Sub of a long one": sub(ref("A"), text(word(api.MaxText-3))), "Sub of an If": sub(when("C", num(1), num(2))),
		"If of nothing": when("", num(1), num(2)), "If of no name": when("1", num(1), num(2)), "If of none": when("C"), "If of one": when("C", num(1)), "If of three": when("C", num(1), num(2), num(3)),
		"Join by a long text": join(word(api.MaxWord+1), list()), "Join by no text": join("\xff", list()), "Join of none": join("-"), "Join of two": join("-", list(), list()),
		"Select of none": choose(), "Select of one": choose(num(0)), "Select of three": choose(num(0), num(1), num(2)),
	} {
		writesNoExpr(t, name, x)
	}
}

// P13.3: expressions of each kind, with a field that it doesn't have.
func TestWriteOtherFields(t *testing.T) {
	fields := map[string]func(*api.Expr){
		"Text": func(x *api.Expr) { x.Text = "A" },
		"Num":  func(x *api.Expr) { x.Num = 1 },
		"Name": func(x *api.Expr) { x.Name = "A" },
		"Attr": func(x *api.Expr) { x.Attr = "Arn" },
		"L":    func(x *api.Expr) { x.L = append(x.L, ref("B")) },
	}
	for has, x := range map[string]api.Expr{"Text": text("a"), "Num": num(7), "L": list(), "Name": ref("C"), "Name Attr": att("C", "Zone"), "L.": sub(text("x")), "Name L": when("C", num(1), num(2)), "Text L": join("-", num(1)), "L..": choose(num(1), num(2))} {
		for field, set := range fields {
			y := clone(x)
			set(&y)
			own := strings.Contains(has, field)
			if own && (field != "L" || x.Kind == api.ExList || x.Kind == api.ExSub) {
				if v, e := syntax.WriteExpr(y); e != api.OK {
					t.Errorf("%s of %+v: %v, %d", field, y, v, e)
				}
				continue
			}
			writesNoExpr(t, field, y)
		}
	}
}

// P13.3: templates that nothing reads.
func TestWriteNoTemplates(t *testing.T) {
	many := func(n int, name string) (t api.Template) {
		for i := range n {
			name := name + string(rune('A'+i))
			t.Params = append(t.Params, api.Param{Name: name})
			t.Conds = append(t.Conds, named(name, equals(num(1), num(1))))
			t.Res = append(t.Res, api.Resource{Id: name, Type: "Disk"})
			t.Outs = append(t.Outs, api.Output{Name: name})
		}
		return t
	}
	section := func(x api.Template, i int) (t api.Template) {
		reflect.ValueOf(&t).Elem().Field(i).Set(reflect.ValueOf(x).Field(i))
		return t
	}
	limits := []int{api.MaxParams, api.MaxConds, api.MaxRes, api.MaxOuts}
	for i, most := range limits {
		x := section(many(most, "A"), i)
		if v, e := syntax.Write(x); e != api.OK || len(v.List[0].List) != most {
			t.Errorf("%d of %+v: %v, %d", most, x, v, e)
		}
		writesNone(t, "one more", section(many(most+1, "A"), i))
		writesNone(t, "many more", section(many(5000, "A"), i))
		for _, bad := range []string{"1", "A ", "A.", "\xff", longest()} {
			writesNone(t, "names", section(many(2, bad), i))
		}
		// Out of order, and a name twice.
		rows := reflect.ValueOf(&x).Elem().Field(i)
		swap := reflect.Swapper(rows.Interface())
		swap(0, 1)
		writesNone(t, "out of order", x)
		swap(0, 1)
		rows.Index(1).Set(rows.Index(0))
		writesNone(t, "twice", x)
		rows.Index(0).Field(0).SetString("")
		writesNone(t, "no name", x)
	}
	for name, p := range map[string]api.Param{
		"a default that is not given": {Default: tree.Text("a")}, "a default of another kind": {Has: true, Default: tree.Num(1)}, "a default of nothing": {Has: true}, "a number's default of nothing": {Has: true, Number: true}, "a number's text": {Has: true, Number: true, Default: tree.Text("1")},
		"a default that is none": {Has: true, Default: tree.Text("\xff")}, "a long default": {Has: true, Default: tree.Text(word(api.MaxWord + 1))}, "a great default": {Has: true, Number: true, Default: tree.Num(api.MaxNumber + 1)},
		"a default with parts": {Has: true, Default: api.Value{Kind: api.Text, List: make([]api.Value, 1)}}, "a default with keys": {Has: true, Default: api.Value{Kind: api.Text, Keys: []string{""}}}, "a default with a number": {Has: true, Default: api.Value{Kind: api.Text, Num: 1}}, "a true default": {Has: true, Default: api.Value{Kind: api.Text, Bool: true}}, "a number with a text": {Has: true, Number: true, Default: api.Value{Kind: api.Number, Text: "a"}},
		"a list": {Has: true, Default: value("['a']")}, "an allowed null": {Allowed: make([]api.Value, 1)}, "an allowed number": {Allowed: []api.Value{tree.Text("a"), tree.Num(1)}}, "an allowed text": {Number: true, Allowed: []api.Value{tree.Num(1), tree.Text("a")}},
		"an allowed long text": {Allowed: []api.Value{tree.Text(word(api.MaxWord + 1))}}, "an allowed great number": {Number: true, Allowed: []api.Value{tree.Num(-api.MaxNumber - 1)}}, "an allowed text with a number": {Allowed: []api.Value{{Kind: api.Text, Num: 1}}},
		"nine allowed": {Number: true, Allowed: value("[1,2,3,4,5,6,7,8,9]").List}, "thousands allowed": {Number: true, Allowed: make([]api.Value, 5000)},
	} {
		p.Name = "P"
		writesNone(t, name, api.Template{Params: []api.Param{p}})
	}
	one := equals(num(1), num(1))
	for name, c := range map[string]api.Cond{
		"a kind below": {Kind: -1}, "a kind above": {Kind: api.CoName + 1}, "a name alone": {Kind: api.CoName},
		"Equals with conditions": {L: []api.Cond{one}}, "And of none": conds(api.CoAnd), "And of five": conds(api.CoAnd, one, one, one, one, one), "Or of none": conds(api.CoOr), "Or of five": conds(api.CoOr, one, one, one, one, one), "Not of none": conds(api.CoNot), "Not of two": conds(api.CoNot, one, one),
		"And with an expression": {Kind: api.CoAnd, L: []api.Cond{one}, A: num(1)}, "Not with an expression": {Kind: api.CoNot, L: []api.Cond{one}, B: text("a")},
		"a part with a name": conds(api.CoAnd, named("D", one)), "a part without one": conds(api.CoAnd, cond("")), "a part of no name": conds(api.CoAnd, cond("1")), "a part with conditions": conds(api.CoOr, api.Cond{Kind: api.CoName, Name: "D", L: []api.Cond{one}}), "a part with an expression": conds(api.CoOr, api.Cond{Kind: api.CoName, Name: "D", A: num(0)}),
		"a part of no kind": conds(api.CoNot, api.Cond{Kind: 9}), "a part of none": conds(api.CoNot, conds(api.CoNot)), "thousands": {Kind: api.CoOr, L: make([]api.Cond, 5000)},
	} {
		writesNone(t, name, api.Template{Conds: []api.Cond{named("C", c)}})
	}
	prop := func(name string) []api.Prop { return []api.Prop{{Name: name, E: num(1)}} }
	some := make([]api.Template, 1)
	for name, r := range map[string]api.Resource{
		"no type": {}, "a type that is none": {Type: "1"}, "a long type": {Type: tooLong()}, "a condition that is none": {Type: "D", Cond: "a b"}, "a long condition": {Type: "D", Cond: tooLong()},
		"depends on nothing": {Type: "D", Depends: []string{""}}, "on no name": {Type: "D", Depends: []string{"A", "1"}}, "twice": {Type: "D", Depends: []string{"A", "B", "A"}}, "on nine": {Type: "D", Depends: strings.Split("A B C D E F G H I", " ")}, "on thousands": {Type: "D", Depends: make([]string, 5000)},
		"a property of nothing": {Type: "D", Props: prop("")}, "of no name": {Type: "D", Props: prop("a b")}, "of a long name": {Type: "D", Props: prop(tooLong())}, "properties twice": {Type: "D", Props: append(prop("A"), prop("A")...)}, "out of order": {Type: "D", Props: append(prop("B"), prop("A")...)}, "thousands of properties": {Type: "D", Props: make([]api.Prop, 5000)},
		"a template": {Type: "Disk", Inner: some}, "a template in a stack": {Type: "stack", Inner: some}, "no template": {Type: "Stack"}, "no template, arguments": {Type: "Stack", Props: prop("A")}, "two templates": {Type: "Stack", Inner: make([]api.Template, 2)}, "thousands of templates": {Type: "Stack", Inner: make([]api.Template, 5000)},
		"an argument of no name": {Type: "Stack", Inner: some, Props: prop("1")}, "arguments twice": {Type: "Stack", Inner: some, Props: append(prop("A"), prop("A")...)}, "arguments out of order": {Type: "Stack", Inner: some, Props: append(prop("B"), prop("A")...)},
		"a template that is none": {Type: "Stack", Inner: []api.Template{{Outs: make([]api.Output, 1)}}},
	} {
		r.Id = "R"
		writesNone(t, name, api.Template{Res: []api.Resource{r}})
		writesNone(t, name+", nested", api.Template{Res: []api.Resource{{Id: "N", Type: "Stack", Inner: []api.Template{{Res: []api.Resource{r}}}}}})
	}
	writesNone(t, "an output's condition", api.Template{Outs: []api.Output{{Name: "O", Cond: "1"}}})
}

// P13.3: one field of a great template changed: it is written just if it can be read again.
func TestWriteChanged(t *testing.T) {
	x := sample()
	n, none := 0, 0
	change(reflect.ValueOf(&x).Elem(), "", func(path string) {
		n++
		v, e := syntax.Write(x)
		if e == api.ErrShape && same(v, api.Value{}) {
			none++
			return
		}
		if got, at, e2 := syntax.Read(v); e != api.OK || !same(got, x) || at != "" || e2 != api.OK {
			t.Errorf("%s: %+v, %d; %+v, %q, %d", path, v, e, got, at, e2)
		}
	})
	if n < 400 || none < 300 || none == n {
		t.Errorf("%d, none of %d", n, none)
	}
	if !same(x, sample()) {
		t.Error("it is another one")
	}
}

// P13.3: values that would be too deep, or too many.
func TestWriteGreat(t *testing.T) {
	x := text("a")
	for n := 1; n <= api.MaxDeep; n++ {
		if v, e := syntax.WriteExpr(x); e != api.OK || tree.Depth(v) != n {
			t.Errorf("%d deep: %d, %d", n, tree.Depth(v), e)
		}
		x = list(x)
	}
	writesNoExpr(t, "too deep", x)
	// Where it stands counts.
	output := func(x api.Expr) api.Template { return api.Template{Outs: []api.Output{{Name: "O", E: x}}} }
	if v, e := syntax.Write(output(x.L[0].L[0].L[0].L[0])); e != api.OK || tree.Depth(v) != api.MaxDeep {
		t.Errorf("%d, %d", tree.Depth(v), e)
	}
	writesNone(t, "too deep in a template", output(x.L[0].L[0].L[0]))
	c := equals(num(1), num(1))
	for range (api.MaxDeep - 5) / 2 {
		c = conds(api.CoNot, c)
	}
	if v, e := syntax.Write(api.Template{Conds: []api.Cond{named("C", c)}}); e != api.OK || tree.Depth(v) < api.MaxDeep-1 {
		t.Errorf("%d, %d", tree.Depth(v), e)
	}
	writesNone(t, "a condition too deep", api.Template{Conds: []api.Cond{named("C", conds(api.CoNot, c))}})
	if v, e := syntax.WriteExpr(exprTree(api.MaxText)); e != api.OK || tree.Count(v) != api.MaxText {
		t.Errorf("%d, %d", tree.Count(v), e)
	}
	writesNoExpr(t, "too many", exprTree(api.MaxText+1))
	props := func(n int) api.Template {
		r := api.Resource{Id: "R", Type: "Disk", Props: make([]api.Prop, n)}
		for i := range r.Props {
			r.Props[i].Name = "A" + strings.Repeat("0", 4-len(decimal(i))) + decimal(i)
		}
		return api.Template{Res: []api.Resource{r}}
	}
	// Five values are around the properties: the whole, the resources, one, its type, its properties.
	if v, e := syntax.Write(props(api.MaxText - 5)); e != api.OK || tree.Count(v) != api.MaxText {
		t.Errorf("%d, %d", tree.Count(v), e)
	}
	writesNone(t, "too many properties", props(api.MaxText-4))
	// How many templates, conditions and expressions stand beside one another counts for no depth.
	wide := api.Template{Conds: []api.Cond{named("C", conds(api.CoAnd, equals(num(1), num(1)), equals(num(1), num(1)), equals(num(1), num(1))))}}
	for range api.MaxNest {
		next := api.Template{Conds: wide.Conds}
		for i := range api.MaxRes {
			next.Res = append(next.Res, api.Resource{Id: "A" + decimal(i), Type: "Stack", Inner: []api.Template{wide}})
		}
		wide = next
	}
	if v, e := syntax.Write(wide); e != api.OK || tree.Depth(v) >= api.MaxDeep {
		t.Errorf("%d, %d", tree.Depth(v), e)
	}
}

// R1: what holds itself, and what is far too deep or too much, is refused, too.
func TestWriteEndless(t *testing.T) {
	x := list(num(1), num(2), num(3))
	for i := range x.L {
		x.L[i] = x
	}
	for _, kind := range []int8{api.ExText, api.ExNumber, api.ExList, api.ExRef, api.ExAtt, api.ExSub, api.ExIf, api.ExJoin, api.ExSelect, 99} {
		writesNoExpr(t, "without an end", api.Expr{Kind: kind, Name: "A", L: x.L})
		writesNoExpr(t, "without an end", api.Expr{Kind: kind, Name: "A", L: x.L[:2]})
		writesNoExpr(t, "without an end", api.Expr{Kind: kind, Name: "A", L: x.L[:1]})
	}
	c := conds(api.CoAnd, api.Cond{}, api.Cond{})
	c.L[0], c.L[1] = c, c
	writesNone(t, "a condition without an end", api.Template{Conds: []api.Cond{named("C", c)}})
	outer := api.Template{Res: []api.Resource{{Id: "A", Type: "Stack", Inner: make([]api.Template, 1)}, {Id: "B", Type: "Stack", Inner: make([]api.Template, 1)}}}
	outer.Res[0].Inner[0], outer.Res[1].Inner[0] = outer, outer
	writesNone(t, "a template without an end", outer)
	endless := value("['a']")
	endless.List[0] = endless
	writesNone(t, "a default without an end", api.Template{Params: []api.Param{{Name: "P", Has: true, Default: endless}}})
	writesNone(t, "allowed ones without an end", api.Template{Params: []api.Param{{Name: "P", Allowed: endless.List}}})
	chain, row := text("a"), exprTree(100)
	for range 1000000 {
		chain = list(chain)
	}
	for range 30 {
		row = list(row, row, row, row, row, row, row, row)
	}
	writesNoExpr(t, "far too deep", chain)
	writesNoExpr(t, "far too many", row)
	writesNoExpr(t, "far too many, not too deep", row.L[0].L[0].L[0].L[0].L[0].L[0].L[0].L[0].L[0].L[0].L[0].L[0].L[0].L[0])
	wide := api.Template{Res: make([]api.Resource, 3000)}
	for range api.MaxNest {
		next := api.Template{Res: make([]api.Resource, 3000)}
		for i := range next.Res {
			next.Res[i] = api.Resource{Id: "A", Type: "Stack", Inner: []api.Template{wide}}
		}
		wide = next
	}
	writesNone(t, "a great many templates", wide)
}
