package syntax_test

import (
	"math"
	"strings"
	"testing"

	"hoarding/api"
	"hoarding/syntax"
	"hoarding/tree"
)

// word is a text of n bytes.
func word(n int) string { return strings.Repeat("w", n) }

// P13.1: expressions of each kind.
func TestExprs(t *testing.T) {
	eight := []api.Expr{num(0), num(1), num(2), num(3), num(4), num(5), num(6), num(7)}
	for s, want := range map[string]api.Expr{
		"''":                               text(""),
		"'a'":                              text("a"),
		"'${A} and ${'":                    text("${A} and ${"),
		"'\\u0000\\u20ac'":                 text("\x00\u20ac"),
		"'" + word(api.MaxWord) + "'":      text(word(api.MaxWord)),
		"0":                                num(0),
		"-12":                              num(-12),
		"9007199254740992":                 num(api.MaxNumber),
		"-9007199254740992":                num(-api.MaxNumber),
		"[]":                               list(),
		"['a']":                            list(text("a")),
		"['a',1,[2,[]]]":                   list(text("a"), num(1), list(num(2), list())),
		"['a','a']":                        list(text("a"), text("a")),
		"[" + many(api.MaxList, "#") + "]": list(eight...),
		"{'Ref':'A'}":                      ref("A"),
		"{'Ref':'Ref'}":                    ref("Ref"),
		"{'Ref':'" + longest() + "'}":      ref(longest()),
		"{'GetAtt':['A','Arn']}":           att("A", "Arn"),
		"{'GetAtt':['A','b1']}":            att("A", "b1"),
		"{'GetAtt':['A','Outputs']}":       att("A", "Outputs"),
		"{'GetAtt':['A','Outputs.B']}":     att("A", "Outputs.B"),
		"{'GetAtt':['" + longest() + "','Outputs." + longest() + "']}": att(longest(), "Outputs."+longest()),
		"{'Sub':''}":                                     sub(),
		"{'Sub':'a'}":                                    sub(text("a")),
		"{'Sub':'a-${B}-${C.Arn}'}":                      sub(text("a-"), ref("B"), text("-"), att("C", "Arn")),
		"{'Sub':'${!x}${N.Outputs.X}$'}":                 sub(text("${x}"), att("N", "Outputs.X"), text("$")),
		"{'Sub':'" + word(api.MaxWord+1) + "'}":          sub(text(word(api.MaxWord + 1))),
		"{'Sub':'" + word(api.MaxText) + "'}":            sub(text(word(api.MaxText))),
		"{'If':['C','a',1]}":                             when("C", text("a"), num(1)),
		"{'If':['C',{'Ref':'A'},[]]}":                    when("C", ref("A"), list()),
		"{'If':['C',{'If':['D',1,2]},{'If':['D',3,4]}]}": when("C", when("D", num(1), num(2)), when("D", num(3), num(4))),
		"{'Join':['',[]]}":                               join("", list()),
		"{'Join':['-',['a',{'Ref':'B'}]]}":               join("-", list(text("a"), ref("B"))),
		"{'Join':['${A}','a']}":                          join("${A}", text("a")),
		"{'Join':['" + word(api.MaxWord) + "',0]}":       join(word(api.MaxWord), num(0)),
		"{'Select':[0,['a']]}":                           choose(num(0), list(text("a"))),
		"{'Select':['a','b']}":                           choose(text("a"), text("b")),
		"{'Select':[{'Ref':'I'},{'If':['C',[],1]}]}":     choose(ref("I"), when("C", list(), num(1))),
		"{'Select':[{'Select':[1,2]},{'Sub':''}]}":       choose(choose(num(1), num(2)), sub()),
	} {
		isExpr(t, s, want)
	}
}

// noExprs are what is no expression, each with the first fault and where it is.
func noExprs() map[string]struct {
	at string
	e  api.Errno
} {
	type row = struct {
		at string
		e  api.Errno
	}
	rows := map[string]row{
		"{'Sub':'${'}":                            {"Sub", api.ErrSub},
		"{'Sub':'a${B}${!c'}":                     {"Sub", api.ErrSub},
		"{'Sub':'${A.}'}":                         {"Sub", api.ErrSub},
		"{'Sub':'" + word(api.MaxText+1) + "'}":   {"Sub", api.ErrLong},
		"{'Sub':'" + word(api.MaxText-1) + "${'}": {"Sub", api.ErrLong},
		"[" + many(api.MaxList+1, "#") + "]":      {"", api.ErrLong},
		"[" + many(100, "null") + "]":             {"", api.ErrLong},
		"[1,[" + many(api.MaxList+1, "#") + "]]":  {"1", api.ErrLong},
		"[[[],[[" + many(9, "#") + "]]],null]":    {"0/1/0", api.ErrLong},
	}
	for s, at := range map[string]string{
		"null": "", "true": "", "false": "",
		"'" + word(api.MaxWord+1) + "'": "", "'" + word(5000) + "'": "", "'" + word(api.MaxWord-1) + "\u00e9'": "",
		"{}": "", "{'Ref':'A','Sub':'b'}": "", "{'Ref':null,'X':null}": "", "{'X':1,'Y':2}": "", "{'Ref':'A','GetAtt':['A','B'],'If':0}": "",
		"{'X':'A'}": "X", "{'':'A'}": "", "{'ref':'A'}": "ref", "{'Ref ':'A'}": "Ref ", "{'Condition':'A'}": "Condition", "{'Equals':[1,2]}": "Equals", "{'a/b':1}": "a/b", "{'Fn::Sub':'a'}": "Fn::Sub",
		"{'Ref':null}": "Ref", "{'Ref':1}": "Ref", "{'Ref':['A']}": "Ref", "{'Ref':{}}": "Ref", "{'Ref':{'Ref':'A'}}": "Ref", "{'Ref':''}": "Ref", "{'Ref':'1A'}": "Ref", "{'Ref':'A.B'}": "Ref", "{'Ref':'A B'}": "Ref", "{'Ref':'\u00e9'}": "Ref", "{'Ref':'" + tooLong() + "'}": "Ref",
		"{'GetAtt':null}": "GetAtt", "{'GetAtt':'A.Arn'}": "GetAtt", "{'GetAtt':[]}": "GetAtt", "{'GetAtt':['A']}": "GetAtt", "{'GetAtt':['A','B','C']}": "GetAtt", "{'GetAtt':{'A':'B'}}": "GetAtt", "{'GetAtt':[" + many(9, "1") + "]}": "GetAtt",
		"{'GetAtt':[1,'Arn']}": "GetAtt", "{'GetAtt':[null,null]}": "GetAtt", "{'GetAtt':['','Arn']}": "GetAtt", "{'GetAtt':['1','Arn']}": "GetAtt", "{'GetAtt':['A.B','']}": "GetAtt", "{'GetAtt':['" + tooLong() + "','Arn']}": "GetAtt", "{'GetAtt':[{'Ref':'A'},'Arn']}": "GetAtt", "{'GetAtt':[['A'],'Arn']}": "GetAtt",
		"{'GetAtt':['A',1]}": "GetAtt", "{'GetAtt':['A',null]}": "GetAtt", "{'GetAtt':['A','']}": "GetAtt", "{'GetAtt':['A','B.C']}": "GetAtt", "{'GetAtt':['A','Outputs.']}": "GetAtt", "{'GetAtt':['A','Outputs.B.C']}": "GetAtt", "{'GetAtt':['A','outputs.B']}": "GetAtt", "{'GetAtt':['A','1']}": "GetAtt", "{'GetAtt':['A','" + tooLong() + "']}": "GetAtt", "{'GetAtt':['A',['Arn']]}": "GetAtt", "{'GetAtt':['A',{'Ref':'B'}]}": "GetAtt",
		"{'Sub':null}": "Sub", "{'Sub':1}": "Sub", "{'Sub':['a']}": "Sub", "{'Sub':{}}": "Sub", "{'Sub':{'Ref':'A'}}": "Sub",
		"{'If':null}": "If", "{'If':'C'}": "If", "{'If':[]}": "If", "{'If':['C']}": "If", "{'If':['C',1]}": "If", "{'If':['C',1,2,3]}": "If", "{'If':{'C':1}}": "If", "{'If':[null,null]}": "If", "{'If':[" + many(9, "1") + "]}": "If",
		"{'If':[1,2,3]}": "If", "{'If':['',null,null]}": "If", "{'If':['1',2,3]}": "If", "{'If':[{'Condition':'C'},2,3]}": "If", "{'If':['" + tooLong() + "',2,3]}": "If", "{'If':[['C'],2,3]}": "If",
		"{'If':['C',null,null]}": "If/1", "{'If':['C',1,null]}": "If/2", "{'If':['C',{'X':1},{}]}": "If/1/X", "{'If':['C',[1,[{}]],{}]}": "If/1/1/0",
		"{'Join':null}": "Join", "{'Join':'a'}": "Join", "{'Join':[]}": "Join", "{'Join':['-']}": "Join", "{'Join':['-',[],[]]}": "Join", "{'Join':{}}": "Join", "{'Join':{'-':[]}}": "Join", "{'Join':[" + many(9, "1") + "]}": "Join",
		"{'Join':[1,[]]}": "Join", "{'Join':[null,null]}": "Join", "{'Join':[{'Ref':'A'},[]]}": "Join", "{'Join':['" + word(api.MaxWord+1) + "',null]}": "Join", "{'Join':[['-'],[]]}": "Join",
		"{'Join':['-',null]}": "Join/1", "{'Join':['-',['a',{'Ref':1}]]}": "Join/1/1/Ref",
		// What a key asks for in its list goes ahead of the expressions there, whose faults stay where they are.
		"{'If':[[],{'Ref':1},'b']}": "If", "{'If':['9',{'Sub':'${'},[" + many(9, "1") + "]]}": "If", "{'If':['C',{'Ref':1},true]}": "If/1/Ref", "{'If':['C',{'GetAtt':['A','x.y']},null]}": "If/1/GetAtt", "{'If':['C','a',{'If':[1,'a','b']}]}": "If/2/If",
		"{'Join':['" + word(api.MaxWord+1) + "',{'Ref':1}]}": "Join", "{'Join':[1,{'Sub':'${'}]}": "Join", "{'Join':[{},[" + many(9, "1") + "]]}": "Join", "{'Join':['-',{'Ref':1}]}": "Join/1/Ref", "{'Join':['-',{'Join':[1,[]]}]}": "Join/1/Join", "{'Select':[0,{'Join':[1,[]]}]}": "Select/1/Join",
		"{'Select':null}": "Select", "{'Select':0}": "Select", "{'Select':[]}": "Select", "{'Select':[0]}": "Select", "{'Select':[0,[],1]}": "Select", "{'Select':{}}": "Select", "{'Select':{'Ref':'A'}}": "Select", "{'Select':[" + many(9, "1") + "]}": "Select",
		"{'Select':[null,null]}": "Select/0", "{'Select':[{},[]]}": "Select/0", "{'Select':[0,null]}": "Select/1", "{'Select':[0,[{'X':1}]]}": "Select/1/0/X",
		"[null]": "0", "[1,true]": "1", "[1,2,{}]": "2", "[{},null]": "0", "['a',['b',['c',null]]]": "1/1/1", "[[1,2],[3,{'Ref':'A','X':1}],null]": "1/1",
	} {
		rows[s] = row{at, api.ErrShape}
	}
	return rows
}

// P13.1: what is no expression, whole ahead of parts, parts in order, wherever it stands.
func TestNoExprs(t *testing.T) {
	holders := []struct{ s, at string }{
		{"[@]", "0"}, {"[1,@]", "1"}, {"[@,null]", "0"}, {"[1,'a',@,{},null]", "2"}, {"[[1],[2,@],{}]", "1/1"},
		{"{'If':['C',@,2]}", "If/1"}, {"{'If':['C',@,null]}", "If/1"}, {"{'If':['C',1,@]}", "If/2"},
		{"{'Join':['-',@]}", "Join/1"}, {"{'Join':['-',[1,@]]}", "Join/1/1"}, {"{'Select':[@,[]]}", "Select/0"}, {"{'Select':[@,null]}", "Select/0"}, {"{'Select':[0,@]}", "Select/1"}, {"{'Select':[0,['a',@]]}", "Select/1/1"},
		{"[{'Join':['',{'Select':[0,[[@],[null]]]}]}]", "0/Join/1/Select/1/0/0"},
	}
	for s, want := range noExprs() {
		noExpr(t, s, want.at, want.e)
		for _, h := range holders {
			noExpr(t, strings.ReplaceAll(h.s, "@", s), beneath(h.at, want.at, s), want.e)
		}
	}
}

// beneath answers the place at within what stands at around. Of s, an object's empty key is a step, too.
func beneath(around, at, s string) string {
	if at != "" || strings.HasPrefix(s, "{'':") {
		return around + "/" + at
	}
	return around
}

// notValues are values that tree.Check refuses, and how.
func notValues() map[string]struct {
	v api.Value
	e api.Errno
} {
	type row = struct {
		v api.Value
		e api.Errno
	}
	in := func(around string, v api.Value) api.Value {
		w := value(around)
		w.List[0] = v
		return w
	}
	deep := tree.Text("a")
	for range api.MaxDeep {
		deep = api.Value{Kind: api.List, List: []api.Value{deep}}
	}
	endless := value("[1,2]")
	endless.List[1] = endless
	rows := map[string]row{}
	for name, x := range map[string]row{
		"a kind that is none":    {api.Value{Kind: 6}, api.ErrArg},
		"a kind below 0":         {api.Value{Kind: -1}, api.ErrArg},
		"a field too many":       {api.Value{Kind: api.Text, Text: "a", Num: 1}, api.ErrArg},
		"a key too many":         {api.Value{Kind: api.Object, Keys: []string{"Ref"}}, api.ErrArg},
		"keys of a list":         {api.Value{Kind: api.List, Keys: []string{"Ref"}}, api.ErrArg},
		"a great number":         {tree.Num(api.MaxNumber + 1), api.ErrNumber},
		"a number far below 0":   {tree.Num(math.MinInt), api.ErrNumber},
		"no text":                {tree.Text("\xff"), api.ErrText},
		"no text, too long":      {tree.Text(word(5000) + "\xff"), api.ErrText},
		"a key that is no text":  {api.Value{Kind: api.Object, Keys: []string{"\xff"}, List: []api.Value{{}}}, api.ErrText},
		"a key twice":            {api.Value{Kind: api.Object, Keys: []string{"Ref", "Ref"}, List: []api.Value{tree.Text("A"), tree.Text("A")}}, api.ErrTwice},
		"too deep":               {deep, api.ErrDeep},
		"without an end":         {endless, api.ErrDeep},
		"too many values":        {api.Value{Kind: api.List, List: make([]api.Value, api.MaxText)}, api.ErrLong},
		"a text with half a one": {tree.Text("${A}\xe2\x82"), api.ErrText},
	} {
		rows[name] = x
		rows[name+", in a list"] = row{in("[1]", x.v), x.e}
		rows[name+", in a Sub"] = row{in("{'Sub':1}", x.v), x.e}
		rows[name+", ahead of a fault"] = row{in("[1,null,{}]", x.v), x.e}
		rows[name+", in a template"] = row{in("{'Resources':{'A':{'Type':'Disk'}}}", x.v), x.e}
		rows[name+", under another key"] = row{in("{'X':1}", x.v), x.e}
	}
	return rows
}

// P13.1, P13.2: values that may not be, whatever else is wrong with them.
func TestNotValues(t *testing.T) {
	for name, x := range notValues() {
		if got, at, e := syntax.Expr(x.v); !same(got, api.Expr{}) || at != "" || e != x.e {
			t.Errorf("Expr, %s: %v, %q, %d", name, got, at, e)
		}
		if got, at, e := syntax.Read(x.v); !same(got, api.Template{}) || at != "" || e != x.e {
			t.Errorf("Read, %s: %v, %q, %d", name, got, at, e)
		}
	}
}

// P13.1: as deep as may be, and as many values.
func TestGreatExprs(t *testing.T) {
	want := text("a")
	for range api.MaxDeep - 1 {
		want = list(want)
	}
	isExpr(t, strings.Repeat("[", api.MaxDeep-1)+"'a'"+strings.Repeat("]", api.MaxDeep-1), want)
	noExpr(t, strings.Repeat("[", api.MaxDeep-1)+"null"+strings.Repeat("]", api.MaxDeep-1), "0"+strings.Repeat("/0", api.MaxDeep-2), api.ErrShape)
	noExpr(t, strings.Repeat("[", api.MaxDeep)+"'a'"+strings.Repeat("]", api.MaxDeep), "", api.ErrDeep)
	isExpr(t, writtenTree(api.MaxText), exprTree(api.MaxText))
	noExpr(t, writtenTree(api.MaxText+1), "", api.ErrLong)
}

// exprTree answers lists of lists of texts, n values in all, at most 4 deep below the whole.
func exprTree(n int) api.Expr {
	left := n
	var grow func(levels int) api.Expr
	grow = func(levels int) api.Expr {
		left--
		if levels == 0 {
			return text("a")
		}
		x := list()
		for len(x.L) < api.MaxList && left > 0 {
			x.L = append(x.L, grow(levels-1))
		}
		return x
	}
	return grow(4)
}

// writtenTree answers exprTree's text.
func writtenTree(n int) string {
	var write func(x api.Expr) string
	write = func(x api.Expr) string {
		if x.Kind == api.ExText {
			return "'a'"
		}
		var parts []string
		for _, part := range x.L {
			parts = append(parts, write(part))
		}
		return "[" + strings.Join(parts, ",") + "]"
	}
	return write(exprTree(n))
}
