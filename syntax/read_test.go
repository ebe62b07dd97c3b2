package syntax_test

import (
	"strings"
	"testing"

	"hoarding/api"
	"hoarding/tree"
)

// faults wants Read to refuse each of the texts with e, at the place that is told beside it.
func faults(t *testing.T, e api.Errno, rows map[string]string) {
	t.Helper()
	for s, at := range rows {
		refuses(t, s, at, e)
	}
}

// in puts each of the texts into the text around, where its @ is, and each of the places behind the place at.
func in(around, at string, rows map[string]string) map[string]string {
	out := map[string]string{}
	for s, place := range rows {
		if place != "" {
			place = "/" + place
		}
		out[strings.ReplaceAll(around, "@", s)] = at + place
	}
	return out
}

// P13.2: templates with no sections, with empty ones, and with some.
func TestSections(t *testing.T) {
	for _, s := range []string{"{}", "{'Parameters':{}}", "{'Conditions':{},'Outputs':{}}", "{'Outputs':{},'Resources':{},'Conditions':{},'Parameters':{}}"} {
		reads(t, s, api.Template{})
	}
	reads(t, "{'Outputs':{'O':{'Value':1}},'Resources':{'R':{'Type':'Disk'}},'Conditions':{'C':{'Equals':[1,2]}},'Parameters':{'P':{'Type':'String'}}}", api.Template{
		Params: []api.Param{{Name: "P"}},
		Conds:  []api.Cond{named("C", equals(num(1), num(2)))},
		Res:    []api.Resource{{Id: "R", Type: "Disk"}},
		Outs:   []api.Output{{Name: "O", E: num(1)}},
	})
}

// P13.2: what is no template, and sections that are none.
func TestNoSections(t *testing.T) {
	faults(t, api.ErrSection, map[string]string{
		"null": "", "true": "", "1": "", "'a'": "", "[]": "", "[{}]": "", "'Resources'": "",
		"{'X':{}}": "X", "{'resources':{}}": "resources", "{'':{}}": "", "{'Resources':null,'Res':{}}": "Res", "{'Description':'a'}": "Description", "{'Ref':'A'}": "Ref", "{'Template':{}}": "Template",
		// Other keys go ahead of all sections, the first of them by names.
		"{'Y':{},'X':{}}": "X", "{'b':1,'a':1,'Z':1}": "Z", "{'Parameters':null,'Zzz':1}": "Zzz", "{'B':1,'Parameters':[],'A':1}": "A",
		"{'Parameters':null}": "Parameters", "{'Conditions':[]}": "Conditions", "{'Resources':'a'}": "Resources", "{'Outputs':1}": "Outputs", "{'Resources':[{'Type':'Disk'}]}": "Resources", "{'Outputs':true}": "Outputs",
		// The sections in their order, each with its definitions, whatever the order of the value's keys.
		"{'Outputs':1,'Resources':1,'Conditions':1,'Parameters':1}":                                  "Parameters",
		"{'Outputs':1,'Resources':1,'Conditions':1,'Parameters':{}}":                                 "Conditions",
		"{'Outputs':1,'Resources':1,'Conditions':{}}":                                                "Resources",
		"{'Outputs':1,'Resources':1,'Conditions':{'C':{}}}":                                          "Conditions/C",
		"{'Outputs':{'O':{}},'Resources':{'R':{}},'Conditions':{'C':{}},'Parameters':{'P':{}}}":      "Parameters/P",
		"{'Outputs':{'O':{}},'Resources':{'R':{'Type':'A'}},'Conditions':{'C':{'Equals':[1,1]}}}":    "Outputs/O",
		"{'Resources':1,'Parameters':{'P':{'Type':'Number','Default':''}}}":                          "Parameters/P/Default",
		"{'Outputs':{'A':{}},'Resources':{'Z':{'Type':'Disk','DependsOn':['A',1]}},'Parameters':{}}": "Resources/Z/DependsOn/1",
	})
}

// P13.2: each section with just as many definitions as may be, and with one more.
func TestSectionLimits(t *testing.T) {
	for section, x := range map[string]struct {
		most       int
		definition string
	}{"Parameters": {api.MaxParams, "{'Type':'Number'}"}, "Conditions": {api.MaxConds, "{'Equals':[1,1]}"}, "Resources": {api.MaxRes, "{'Type':'Disk'}"}, "Outputs": {api.MaxOuts, "{'Value':1}"}} {
		some := func(n int, definition string) string {
			return "{'" + section + "':{" + many(n, "'A#':"+definition) + "}}"
		}
		var want api.Template
		for _, name := range strings.Split("A0 A1 A2 A3 A4 A5 A6 A7", " ")[:x.most] {
			switch section {
			case "Parameters":
				want.Params = append(want.Params, api.Param{Name: name, Number: true})
			case "Conditions":
				want.Conds = append(want.Conds, named(name, equals(num(1), num(1))))
			case "Resources":
				want.Res = append(want.Res, api.Resource{Id: name, Type: "Disk"})
			case "Outputs":
				want.Outs = append(want.Outs, api.Output{Name: name, E: num(1)})
			}
		}
		reads(t, some(x.most, x.definition), want)
		refuses(t, some(x.most, "null"), section+"/A0", api.ErrSection)
		for _, n := range []int{x.most + 1, x.most + 2, 1000} {
			// How many there are goes ahead of what they are; the sections ahead of it go first.
			refuses(t, some(n, x.definition), section, api.ErrLong)
			refuses(t, some(n, "null"), section, api.ErrLong)
			refuses(t, strings.Replace(some(n, "null"), "A1", "", 1), section, api.ErrLong)
			refuses(t, strings.Replace(some(n, "null"), "{", "{'X':1,", 1), "X", api.ErrSection)
			if section != "Parameters" {
				refuses(t, strings.Replace(some(n, x.definition), "{", "{'Parameters':1,", 1), "Parameters", api.ErrSection)
			}
			if section != "Outputs" {
				refuses(t, strings.Replace(some(n, x.definition), "{", "{'Outputs':1,", 1), section, api.ErrLong)
			}
		}
	}
}

// P13.2: definitions whose names are none, or that are no objects; the first by names.
func TestDefinitions(t *testing.T) {
	for section, good := range map[string]string{"Parameters": "{'Type':'String'}", "Conditions": "{'Not':[{'Equals':[1,1]}]}", "Resources": "{'Type':'Disk'}", "Outputs": "{'Value':''}"} {
		around := func(s string) string { return strings.ReplaceAll("{'"+section+"':{@}}", "@", s) }
		for _, name := range []string{"", "1", "1A", "a b", "A-B", "A.B", "\u00e9", " A", "A/B", "_", "${A}", tooLong()} {
			refuses(t, around("'"+name+"':"+good), section+"/"+name, api.ErrSection)
			refuses(t, around("'"+name+"':null"), section+"/"+name, api.ErrSection)
			refuses(t, around("'"+name+"':{}"), section+"/"+name, api.ErrSection)
			refuses(t, around("'"+name+"':{'X':1}"), section+"/"+name, api.ErrSection)
		}
		for _, bad := range []string{"null", "true", "1", "'a'", "[]", "[" + good + "]", "{}"} {
			refuses(t, around("'A':"+bad), section+"/A", api.ErrSection)
			refuses(t, around("'A':"+good+",'B':"+bad+",'C':"+good), section+"/B", api.ErrSection)
			refuses(t, around("'C':{},'B':"+bad+",'A':"+good), section+"/B", api.ErrSection)
			refuses(t, around("'C':"+bad+",'1':"+good), section+"/1", api.ErrSection)
			refuses(t, around("'b c':"+good+",'a':"+bad), section+"/a", api.ErrSection)
			refuses(t, around("'b c':"+good+",'c':"+bad), section+"/b c", api.ErrSection)
		}
		first := strings.Replace(good, "{", "{'X':0,", 1)
		refuses(t, around("'A':"+first), section+"/A/X", api.ErrSection)
		refuses(t, around("'A':{'':0,'Y':0,'X':0}"), section+"/A/", api.ErrSection)
		refuses(t, around("'A':{'z':0,'Y':0,'X':0}"), section+"/A/X", api.ErrSection)
		refuses(t, around("'A':{'Ref':'A','Aa':1}"), section+"/A/Aa", api.ErrSection)
		refuses(t, around("'B':null,'A':"+first), section+"/A/X", api.ErrSection)
		refuses(t, around("'B':"+first+",'A':null"), section+"/A", api.ErrSection)
	}
}

// P13.2: parameters.
func TestParams(t *testing.T) {
	texts := func(l ...string) (out []api.Value) {
		for _, s := range l {
			out = append(out, tree.Text(s))
		}
		return out
	}
	for s, want := range map[string]api.Param{
		"{'Type':'String'}":                                           {},
		"{'Type':'Number'}":                                           {Number: true},
		"{'Type':'String','Default':''}":                              {Has: true, Default: tree.Text("")},
		"{'Default':'a','Type':'String'}":                             {Has: true, Default: tree.Text("a")},
		"{'Type':'String','Default':'12'}":                            {Has: true, Default: tree.Text("12")},
		"{'Type':'String','Default':'" + word(api.MaxWord) + "'}":     {Has: true, Default: tree.Text(word(api.MaxWord))},
		"{'Type':'Number','Default':0}":                               {Number: true, Has: true, Default: tree.Num(0)},
		"{'Type':'Number','Default':-9007199254740992}":               {Number: true, Has: true, Default: tree.Num(-api.MaxNumber)},
		"{'Type':'String','AllowedValues':['']}":                      {Allowed: texts("")},
		"{'AllowedValues':['b','a','b'],'Type':'String'}":             {Allowed: texts("b", "a", "b")},
		"{'Type':'String','Default':'c','AllowedValues':['a','b']}":   {Has: true, Default: tree.Text("c"), Allowed: texts("a", "b")},
		"{'Type':'String','AllowedValues':[" + many(8, "'A#'") + "]}": {Allowed: texts("A0", "A1", "A2", "A3", "A4", "A5", "A6", "A7")},
		"{'Type':'String','AllowedValues':['" + word(64) + "']}":      {Allowed: texts(word(64))},
		"{'AllowedValues':[2,1],'Default':1,'Type':'Number'}":         {Number: true, Has: true, Default: tree.Num(1), Allowed: []api.Value{tree.Num(2), tree.Num(1)}},
	} {
		want.Name = "P"
		reads(t, "{'Parameters':{'P':"+s+"}}", api.Template{Params: []api.Param{want}})
	}
	faults(t, api.ErrSection, in("{'Parameters':{'P':@}}", "Parameters/P", map[string]string{
		"{'Default':'a'}": "", "{'AllowedValues':['a']}": "", "{'Default':null,'AllowedValues':null}": "",
		"{'Type':null}": "Type", "{'Type':'string'}": "Type", "{'Type':''}": "Type", "{'Type':'Strings'}": "Type", "{'Type':'List'}": "Type", "{'Type':['String']}": "Type", "{'Type':1}": "Type", "{'Type':{}}": "Type", "{'Type':'Disk','Default':1}": "Type",
		"{'Type':'String','Default':1}": "Default", "{'Type':'String','Default':null}": "Default", "{'Type':'String','Default':true}": "Default", "{'Type':'String','Default':['a']}": "Default", "{'Type':'String','Default':{'Ref':'A'}}": "Default", "{'Type':'String','Default':'" + word(65) + "'}": "Default",
		"{'Type':'Number','Default':'1'}": "Default", "{'Type':'Number','Default':null}": "Default", "{'Type':'Number','Default':[1]}": "Default", "{'Type':'Number','Default':''}": "Default",
		"{'Type':'String','AllowedValues':[]}": "AllowedValues", "{'Type':'Number','AllowedValues':[]}": "AllowedValues", "{'Type':'String','AllowedValues':'a'}": "AllowedValues", "{'Type':'Number','AllowedValues':1}": "AllowedValues", "{'Type':'String','AllowedValues':{}}": "AllowedValues", "{'Type':'String','AllowedValues':{'a':'b'}}": "AllowedValues", "{'Type':'String','AllowedValues':null}": "AllowedValues",
		"{'Type':'String','AllowedValues':[1]}": "AllowedValues/0", "{'Type':'String','AllowedValues':['a',1,null]}": "AllowedValues/1", "{'Type':'String','AllowedValues':['a','b',['c']]}": "AllowedValues/2", "{'Type':'String','AllowedValues':['" + word(65) + "']}": "AllowedValues/0", "{'Type':'String','AllowedValues':[{}]}": "AllowedValues/0",
		"{'Type':'Number','AllowedValues':['1']}": "AllowedValues/0", "{'Type':'Number','AllowedValues':[1,null]}": "AllowedValues/1", "{'Type':'Number','AllowedValues':[1,2,'3','4']}": "AllowedValues/2", "{'Type':'Number','AllowedValues':[" + many(7, "1") + ",'']}": "AllowedValues/7",
		// A part that is not as told goes ahead of a list that is too long.
		"{'Type':'Number','AllowedValues':[" + many(8, "1") + ",'']}": "AllowedValues/8", "{'Type':'String','AllowedValues':[1," + many(9, "''") + "]}": "AllowedValues/0",
		// The keys in order; another key ahead of all of them.
		"{'AllowedValues':[],'Default':1,'Type':'String'}": "Default", "{'AllowedValues':[],'Default':1,'Type':0}": "Type", "{'AllowedValues':[],'Default':1}": "", "{'AllowedValues':[null],'Default':'','Type':'String'}": "AllowedValues/0",
		"{'Type':'String','Min':1}": "Min", "{'Min':1}": "Min", "{'Typ':1,'Type':0}": "Typ", "{'Type':0,'Type ':1,'Value':2}": "Type ", "{'Allowed':1,'Default':1}": "Allowed",
	}))
	faults(t, api.ErrLong, in("{'Parameters':{'P':@}}", "Parameters/P/AllowedValues", map[string]string{
		"{'Type':'String','AllowedValues':[" + many(9, "'A#'") + "]}": "", "{'Type':'Number','AllowedValues':[" + many(9, "#") + "]}": "", "{'Type':'Number','AllowedValues':[" + many(3000, "1") + "]}": "",
	}))
	refuses(t, "{'Parameters':{'P':{'Type':'String','Default':1,'AllowedValues':["+many(9, "''")+"]}}}", "Parameters/P/Default", api.ErrSection)
}

// P13.2: conditions.
func TestConds(t *testing.T) {
	one := equals(num(1), text("a"))
	for s, want := range map[string]api.Cond{
		"{'Equals':[1,'a']}":                                                               one,
		"{'Equals':[{'Ref':'P'},[[],{}]]}":                                                 {},
		"{'Equals':[{'Ref':'P'},[[]]]}":                                                    equals(ref("P"), list(list())),
		"{'And':[{'Equals':[1,'a']}]}":                                                     conds(api.CoAnd, one),
		"{'And':[" + many(4, "{'Condition':'C#'}") + "]}":                                  conds(api.CoAnd, cond("C0"), cond("C1"), cond("C2"), cond("C3")),
		"{'Or':[{'Condition':'C'},{'Condition':'C'}]}":                                     conds(api.CoOr, cond("C"), cond("C")),
		"{'Or':[" + many(4, "{'Equals':[1,'a']}") + "]}":                                   conds(api.CoOr, one, one, one, one),
		"{'Not':[{'Condition':'D'}]}":                                                      conds(api.CoNot, cond("D")),
		"{'Not':[{'Not':[{'Not':[{'Equals':[1,'a']}]}]}]}":                                 conds(api.CoNot, conds(api.CoNot, conds(api.CoNot, one))),
		"{'And':[{'Or':[{'Condition':'" + longest() + "'},{'Not':[{'Condition':'D'}]}]}]}": conds(api.CoAnd, conds(api.CoOr, cond(longest()), conds(api.CoNot, cond("D")))),
		"{'Equals':[{'If':['C',1,2]},{'Sub':'${A.Arn}'}]}":                                 equals(when("C", num(1), num(2)), sub(att("A", "Arn"))),
	} {
		if same(want, api.Cond{}) {
			refuses(t, "{'Conditions':{'C':"+s+"}}", "Conditions/C/Equals/1/1", api.ErrShape)
			continue
		}
		reads(t, "{'Conditions':{'C':"+s+"}}", api.Template{Conds: []api.Cond{named("C", want)}})
	}
	wrong := map[string]string{
		"null": "", "1": "", "'C'": "", "true": "", "[]": "", "[{'Condition':'C'}]": "",
		"{}": "", "{'Equals':[1,1],'Not':[{'Equals':[1,1]}]}": "", "{'And':null,'Or':null}": "", "{'Condition':'C','Not':[{'Equals':[1,1]}]}": "", "{'And':0,'Condition':'C','Equals':0,'Not':0,'Or':0}": "",
		"{'X':1}": "X", "{'X':1,'A':2}": "A", "{'Equals':[1,1],'X':1}": "X", "{'And':null,'Or':null,'X':null}": "X", "{'Ref':'P'}": "Ref", "{'equals':[1,1]}": "equals", "{'Equals':null,'And':null,'Anda':1}": "Anda",
		"{'Equals':null}": "Equals", "{'Equals':1}": "Equals", "{'Equals':[]}": "Equals", "{'Equals':[1]}": "Equals", "{'Equals':[1,2,3]}": "Equals", "{'Equals':{}}": "Equals", "{'Equals':[null]}": "Equals", "{'Equals':[" + many(9, "1") + "]}": "Equals", "{'Equals':{'a':1,'b':2}}": "Equals",
		"{'And':null}": "And", "{'And':[]}": "And", "{'And':{'Equals':[1,1]}}": "And", "{'And':'C'}": "And", "{'And':[" + many(5, "{'Condition':'C'}") + "]}": "And", "{'And':[" + many(5, "null") + "]}": "And", "{'And':[" + many(9, "{'Condition':'C'}") + "]}": "And",
		"{'Or':null}": "Or", "{'Or':[]}": "Or", "{'Or':{'Equals':[1,1]}}": "Or", "{'Or':'C'}": "Or", "{'Or':[" + many(5, "{'Condition':'C'}") + "]}": "Or", "{'Or':[" + many(5, "null") + "]}": "Or",
		"{'Not':null}": "Not", "{'Not':[]}": "Not", "{'Not':{'Equals':[1,1]}}": "Not", "{'Not':'C'}": "Not", "{'Not':[{'Condition':'C'},{'Condition':'C'}]}": "Not", "{'Not':[null,null]}": "Not",
		"{'And':[null]}": "And/0", "{'And':[{'Condition':'C'},1,null]}": "And/1", "{'Or':['C']}": "Or/0", "{'Or':[{'Condition':'C'},{'Condition':'C'},{'Condition':'C'},{}]}": "Or/3", "{'Not':[true]}": "Not/0", "{'Not':[{}]}": "Not/0", "{'Not':[[]]}": "Not/0",
		"{'Condition':null}": "Condition", "{'Condition':''}": "Condition", "{'Condition':'1'}": "Condition", "{'Condition':'A B'}": "Condition", "{'Condition':['C']}": "Condition", "{'Condition':{'Ref':'C'}}": "Condition", "{'Condition':'" + tooLong() + "'}": "Condition",
		"{'And':[{'Or':[{'Condition':'C'},{'Not':[{'Not':[]}]}]},null]}": "And/0/Or/1/Not/0/Not",
	}
	faults(t, api.ErrSection, in("{'Conditions':{'C':@}}", "Conditions/C", wrong))
	// A defined one is not just another's name.
	refuses(t, "{'Conditions':{'C':{'Condition':'D'}}}", "Conditions/C/Condition", api.ErrSection)
	refuses(t, "{'Conditions':{'C':{'Condition':'D'},'D':null}}", "Conditions/C/Condition", api.ErrSection)
	// The same deeper within.
	faults(t, api.ErrSection, in("{'Conditions':{'A':{'Equals':[1,1]},'C':{'And':[{'Condition':'A'},@]}}}", "Conditions/C/And/1", wrong))
	faults(t, api.ErrSection, in("{'Conditions':{'C':{'Or':[{'Equals':[1,1]},{'Or':[@,null]}]}}}", "Conditions/C/Or/1/Or/0", wrong))
	faults(t, api.ErrSection, in("{'Conditions':{'C':{'Not':[{'Not':[@]}]}}}", "Conditions/C/Not/0/Not/0", wrong))
	// Parts in order.
	refuses(t, "{'Conditions':{'C':{'And':[{'Equals':[null,1]},null]}}}", "Conditions/C/And/0/Equals/0", api.ErrShape)
	refuses(t, "{'Conditions':{'C':{'And':[null,{'Equals':[null,1]}]}}}", "Conditions/C/And/0", api.ErrSection)
}

// P13.2: outputs.
func TestOutputs(t *testing.T) {
	for s, want := range map[string]api.Output{
		"{'Value':1}":  {E: num(1)},
		"{'Value':''}": {E: text("")},
		"{'Condition':'C','Value':{'GetAtt':['A','B']}}":  {Cond: "C", E: att("A", "B")},
		"{'Value':[],'Condition':'" + longest() + "'}":    {Cond: longest(), E: list()},
		"{'Value':{'Join':['-',{'Ref':'A'}]}}":            {E: join("-", ref("A"))},
		"{'Value':{'Select':[{'Ref':'I'},{'Ref':'L'}]}}":  {E: choose(ref("I"), ref("L"))},
		"{'Value':{'Sub':'${!a}'},'Condition':'Outputs'}": {Cond: "Outputs", E: sub(text("${a}"))},
	} {
		want.Name = "O"
		reads(t, "{'Outputs':{'O':"+s+"}}", api.Template{Outs: []api.Output{want}})
	}
	faults(t, api.ErrSection, in("{'Outputs':{'O':@}}", "Outputs/O", map[string]string{
		"{'Condition':'C'}": "", "{'Condition':1}": "", "{'Export':1}": "Export", "{'Value':null,'X':1}": "X", "{'Value':1,'Condition':'C','Conditions':'D','Cond':1}": "Cond",
		"{'Value':1,'Condition':''}": "Condition", "{'Value':1,'Condition':null}": "Condition", "{'Value':1,'Condition':'a b'}": "Condition", "{'Value':1,'Condition':['C']}": "Condition", "{'Value':1,'Condition':{'Condition':'C'}}": "Condition", "{'Value':1,'Condition':'" + tooLong() + "'}": "Condition", "{'Value':1,'Condition':1}": "Condition",
	}))
	// The keys in order.
	refuses(t, "{'Outputs':{'O':{'Condition':1,'Value':null}}}", "Outputs/O/Value", api.ErrShape)
	refuses(t, "{'Outputs':{'P':{'Value':null},'O':{'Condition':1,'Value':0}}}", "Outputs/O/Condition", api.ErrSection)
}

// P13.2: resources, but for nested stacks.
func TestResources(t *testing.T) {
	for s, want := range map[string]api.Resource{
		"{'Type':'Disk'}":                                                       {Type: "Disk"},
		"{'Type':'Any'}":                                                        {Type: "Any"},
		"{'Type':'" + longest() + "'}":                                          {Type: longest()},
		"{'Condition':'C','Type':'Disk'}":                                       {Type: "Disk", Cond: "C"},
		"{'Type':'Disk','DependsOn':'B'}":                                       {Type: "Disk", Depends: []string{"B"}},
		"{'Type':'Disk','DependsOn':['B']}":                                     {Type: "Disk", Depends: []string{"B"}},
		"{'Type':'Disk','DependsOn':[]}":                                        {Type: "Disk"},
		"{'Type':'Disk','DependsOn':['C','A','B']}":                             {Type: "Disk", Depends: []string{"C", "A", "B"}},
		"{'Type':'Disk','DependsOn':['a','A']}":                                 {Type: "Disk", Depends: []string{"a", "A"}},
		"{'Type':'D','DependsOn':[" + many(8, "'B#'") + "]}":                    {Type: "D", Depends: []string{"B0", "B1", "B2", "B3", "B4", "B5", "B6", "B7"}},
		"{'Type':'Disk','DeletionPolicy':'Delete'}":                             {Type: "Disk"},
		"{'Type':'Disk','DeletionPolicy':'Retain'}":                             {Type: "Disk", Retain: true},
		"{'Type':'Disk','Properties':{}}":                                       {Type: "Disk"},
		"{'Type':'Disk','Properties':{'Size':1}}":                               {Type: "Disk", Props: []api.Prop{{Name: "Size", E: num(1)}}},
		"{'Properties':{'b':[],'B':{'Ref':'P'},'A':{'Sub':'${B}'}},'Type':'X'}": {Type: "X", Props: []api.Prop{{Name: "A", E: sub(ref("B"))}, {Name: "B", E: ref("P")}, {Name: "b", E: list()}}},
		"{'Type':'Net','Properties':{'Template':{'Ref':'A'},'Parameters':1,'" + longest() + "':''}}":                               {Type: "Net", Props: []api.Prop{{Name: longest(), E: text("")}, {Name: "Parameters", E: num(1)}, {Name: "Template", E: ref("A")}}},
		"{'Type':'stack','Condition':'C','DependsOn':'A','DeletionPolicy':'Retain','Properties':{'Size':{'If':['D',1,2]}}}":        {Type: "stack", Cond: "C", Depends: []string{"A"}, Retain: true, Props: []api.Prop{{Name: "Size", E: when("D", num(1), num(2))}}},
		"{'Properties':{'Size':{'Select':[0,[1]]}},'DeletionPolicy':'Delete','DependsOn':['R'],'Condition':'R','Type':'Resource'}": {Type: "Resource", Cond: "R", Depends: []string{"R"}, Props: []api.Prop{{Name: "Size", E: choose(num(0), list(num(1)))}}},
	} {
		want.Id = "R"
		reads(t, "{'Resources':{'R':"+s+"}}", api.Template{Res: []api.Resource{want}})
	}
	faults(t, api.ErrSection, in("{'Resources':{'R':@}}", "Resources/R", map[string]string{
		"{'Properties':{}}": "", "{'Condition':1,'DependsOn':1,'DeletionPolicy':1,'Properties':1}": "",
		"{'Metadata':{},'Type':'Disk'}": "Metadata", "{'type':'Disk'}": "type", "{'Type':1,'Size':1}": "Size", "{'Z':1,'Y':1,'Type':1}": "Y",
		"{'Type':null}": "Type", "{'Type':''}": "Type", "{'Type':'AWS::Disk'}": "Type", "{'Type':'1'}": "Type", "{'Type':['Disk']}": "Type", "{'Type':{'Ref':'T'}}": "Type", "{'Type':'" + tooLong() + "'}": "Type",
		"{'Type':'D','Condition':null}": "Condition", "{'Type':'D','Condition':''}": "Condition", "{'Type':'D','Condition':'a-b'}": "Condition", "{'Type':'D','Condition':['C']}": "Condition", "{'Type':'D','Condition':{'Equals':[1,1]}}": "Condition",
		"{'Type':'D','DependsOn':null}": "DependsOn", "{'Type':'D','DependsOn':1}": "DependsOn", "{'Type':'D','DependsOn':''}": "DependsOn", "{'Type':'D','DependsOn':'A B'}": "DependsOn", "{'Type':'D','DependsOn':{}}": "DependsOn", "{'Type':'D','DependsOn':{'Ref':'A'}}": "DependsOn", "{'Type':'D','DependsOn':'A.B'}": "DependsOn", "{'Type':'D','DependsOn':'" + tooLong() + "'}": "DependsOn",
		"{'Type':'D','DependsOn':['']}": "DependsOn/0", "{'Type':'D','DependsOn':['A',1]}": "DependsOn/1", "{'Type':'D','DependsOn':['A','B','C.D',null]}": "DependsOn/2", "{'Type':'D','DependsOn':[['A']]}": "DependsOn/0", "{'Type':'D','DependsOn':[{'Ref':'A'}]}": "DependsOn/0", "{'Type':'D','DependsOn':['" + tooLong() + "']}": "DependsOn/0",
		// A part that is no name goes ahead of a list that is too long, and of a name twice.
		"{'Type':'D','DependsOn':[" + many(9, "'B#'") + ",1]}": "DependsOn/9", "{'Type':'D','DependsOn':['A','A','1']}": "DependsOn/2",
		"{'Type':'D','DeletionPolicy':null}": "DeletionPolicy", "{'Type':'D','DeletionPolicy':'delete'}": "DeletionPolicy", "{'Type':'D','DeletionPolicy':''}": "DeletionPolicy", "{'Type':'D','DeletionPolicy':'Snapshot'}": "DeletionPolicy", "{'Type':'D','DeletionPolicy':true}": "DeletionPolicy", "{'Type':'D','DeletionPolicy':['Retain']}": "DeletionPolicy",
		"{'Type':'D','Properties':null}": "Properties", "{'Type':'D','Properties':[]}": "Properties", "{'Type':'D','Properties':'a'}": "Properties", "{'Type':'D','Properties':[{'Size':1}]}": "Properties",
		"{'Type':'D','Properties':{'1':1}}": "Properties/1", "{'Type':'D','Properties':{'':1}}": "Properties/", "{'Type':'D','Properties':{'A B':null}}": "Properties/A B", "{'Type':'D','Properties':{'A':1,'B.C':2,'B-':3}}": "Properties/B-", "{'Type':'D','Properties':{'" + tooLong() + "':1}}": "Properties/" + tooLong(),
		// The keys in order.
		"{'Properties':null,'DeletionPolicy':null,'DependsOn':null,'Condition':null,'Type':null}": "Type",
		"{'Properties':null,'DeletionPolicy':null,'DependsOn':null,'Condition':null,'Type':'D'}":  "Condition",
		"{'Properties':null,'DeletionPolicy':null,'DependsOn':null,'Type':'D'}":                   "DependsOn",
		"{'Properties':null,'DeletionPolicy':null,'DependsOn':'A','Type':'D'}":                    "DeletionPolicy",
		"{'Properties':{'A':null},'DependsOn':['A','B',3],'Type':'D'}":                            "DependsOn/2",
	}))
	faults(t, api.ErrLong, in("{'Resources':{'R':@}}", "Resources/R/DependsOn", map[string]string{
		"{'Type':'D','DependsOn':[" + many(9, "'B#'") + "]}": "", "{'Type':'D','DependsOn':[" + many(9, "'B'") + "]}": "", "{'Type':'D','DependsOn':[" + many(1000, "'B#'") + "],'Properties':1}": "", "{'Type':'Stack','DependsOn':[" + many(9, "'B#'") + "]}": "",
	}))
	faults(t, api.ErrTwice, in("{'Resources':{'R':@}}", "Resources/R/DependsOn", map[string]string{
		"{'Type':'D','DependsOn':['A','A']}": "1", "{'Type':'D','DependsOn':['A','B','A','B']}": "2", "{'Type':'D','DependsOn':['A','B','C','B','A']}": "3", "{'Type':'D','DependsOn':[" + many(7, "'B#'") + ",'B6']}": "7", "{'Type':'D','DependsOn':['A','A'],'DeletionPolicy':1,'Properties':1}": "1",
	}))
	refuses(t, "{'Resources':{'R':{'Type':'D','Properties':{'B':{'Sub':'${'},'A':{'X':1}}}}}", "Resources/R/Properties/A/X", api.ErrShape)
}

// inner answers a template's text in which s, a template's text, is nested n deep, and where it stands.
func inner(n int, s string) (text, at string) {
	for range n {
		s = "{'Resources':{'N':{'Properties':{'Template':" + s + "},'Type':'Stack'}}}"
		at += "/Resources/N/Properties/Template"
	}
	return s, strings.TrimPrefix(at, "/")
}

// P13.2: nested stacks.
func TestNested(t *testing.T) {
	disk := api.Template{Res: []api.Resource{{Id: "A", Type: "Disk"}}}
	for s, want := range map[string]api.Resource{
		"{'Type':'Stack','Properties':{'Template':{}}}":                 {Inner: make([]api.Template, 1)},
		"{'Type':'Stack','Properties':{'Template':{},'Parameters':{}}}": {Inner: make([]api.Template, 1)},
		"{'Properties':{'Parameters':{'Q':'a','P':{'Ref':'A'}},'Template':{'Resources':{'A':{'Type':'Disk'}}}},'Type':'Stack'}": {
			Inner: []api.Template{disk}, Props: []api.Prop{{Name: "P", E: ref("A")}, {Name: "Q", E: text("a")}},
		},
		"{'Type':'Stack','Condition':'C','DependsOn':['A','B'],'DeletionPolicy':'Retain','Properties':{'Template':{'Outputs':{'O':{'Value':1}}}}}": {
			Cond: "C", Depends: []string{"A", "B"}, Retain: true, Inner: []api.Template{{Outs: []api.Output{{Name: "O", E: num(1)}}}},
		},
		"{'Type':'Stack','Properties':{'Template':{'Resources':{'M':{'Type':'Stack','Properties':{'Template':{'Resources':{'A':{'Type':'Disk'}}}}}}}}}": {
			Inner: []api.Template{{Res: []api.Resource{{Id: "M", Type: "Stack", Inner: []api.Template{disk}}}}},
		},
	} {
		want.Id, want.Type = "N", "Stack"
		reads(t, "{'Resources':{'N':"+s+"}}", api.Template{Res: []api.Resource{want}})
	}
	faults(t, api.ErrSection, in("{'Resources':{'N':@}}", "Resources/N", map[string]string{
		"{'Type':'Stack'}": "", "{'Type':'Stack','DependsOn':'A','DeletionPolicy':'Retain'}": "",
		// Properties are the last key.
		"{'Type':'Stack','Condition':1}": "Condition", "{'Type':'Stack','DependsOn':1}": "DependsOn", "{'Type':'Stack','DeletionPolicy':1}": "DeletionPolicy",
		"{'Type':'Stack','Properties':null}": "Properties", "{'Type':'Stack','Properties':[]}": "Properties", "{'Type':'Stack','Properties':'a'}": "Properties",
		"{'Type':'Stack','Properties':{}}": "Properties", "{'Type':'Stack','Properties':{'Parameters':{}}}": "Properties", "{'Type':'Stack','Properties':{'Parameters':1}}": "Properties",
		"{'Type':'Stack','Properties':{'Size':1}}": "Properties/Size", "{'Type':'Stack','Properties':{'Template':null,'Size':1}}": "Properties/Size", "{'Type':'Stack','Properties':{'Template':{},'template':{}}}": "Properties/template", "{'Type':'Stack','Properties':{'1':1,'Z':1}}": "Properties/1",
		"{'Type':'Stack','Properties':{'Template':null}}": "Properties/Template", "{'Type':'Stack','Properties':{'Template':'a'}}": "Properties/Template", "{'Type':'Stack','Properties':{'Template':[{}]}}": "Properties/Template", "{'Type':'Stack','Properties':{'Template':{'Ref':'A'}}}": "Properties/Template/Ref", "{'Type':'Stack','Properties':{'Parameters':null,'Template':null}}": "Properties/Template",
		"{'Type':'Stack','Properties':{'Template':{'Resources':{'A':{}}}}}": "Properties/Template/Resources/A", "{'Type':'Stack','Properties':{'Template':{'Parameters':{'P':{'Type':'String','AllowedValues':['a',1]}}},'Parameters':1}}": "Properties/Template/Parameters/P/AllowedValues/1",
		"{'Type':'Stack','Properties':{'Template':{},'Parameters':null}}": "Properties/Parameters", "{'Type':'Stack','Properties':{'Template':{},'Parameters':[]}}": "Properties/Parameters", "{'Type':'Stack','Properties':{'Template':{},'Parameters':{'A.B':1}}}": "Properties/Parameters/A.B", "{'Type':'Stack','Properties':{'Template':{},'Parameters':{'':1}}}": "Properties/Parameters/",
	}))
	faults(t, api.ErrShape, in("{'Resources':{'N':@}}", "Resources/N/Properties", map[string]string{
		"{'Type':'Stack','Properties':{'Parameters':{'P':null},'Template':{}}}": "Parameters/P", "{'Type':'Stack','Properties':{'Parameters':{'Q':{'X':1},'P':[1,{'Ref':''}]},'Template':{}}}": "Parameters/P/1/Ref",
		"{'Type':'Stack','Properties':{'Parameters':1,'Template':{'Outputs':{'O':{'Value':null}}}}}": "Template/Outputs/O/Value",
	}))
	refuses(t, "{'Resources':{'N':{'Type':'Stack','Properties':{'Template':{'Outputs':{"+many(7, "'O#':1")+"}},'X':1}}}}", "Resources/N/Properties/X", api.ErrSection)
	refuses(t, "{'Resources':{'N':{'Type':'Stack','Properties':{'Template':{'Outputs':{"+many(7, "'O#':1")+"}}}}}}", "Resources/N/Properties/Template/Outputs", api.ErrLong)
}

// P13.2: as many templates within one another as may be, and one more.
func TestNestLimit(t *testing.T) {
	want := api.Template{Outs: []api.Output{{Name: "O", E: num(1)}}}
	for n := range api.MaxNest + 1 {
		s, at := inner(n, "{'Outputs':{'O':{'Value':1}}}")
		reads(t, s, want)
		want = api.Template{Res: []api.Resource{{Id: "N", Type: "Stack", Inner: []api.Template{want}}}}
		s, _ = inner(n, "{'Outputs':{'O':{}}}")
		refuses(t, s, strings.TrimPrefix(at+"/Outputs/O", "/"), api.ErrSection)
		s, _ = inner(n, "{'Outputs':{"+many(7, "'O#':1")+"}}")
		refuses(t, s, strings.TrimPrefix(at+"/Outputs", "/"), api.ErrLong)
	}
	for _, s := range []string{"{}", "{'Outputs':{'O':{'Value':1}}}", "{'X':1}", "{'Resources':{'A':{}}}", "null", "1"} {
		for n := 1; n < 3; n++ {
			deep, _ := inner(n, s)
			deep, _ = inner(api.MaxNest, deep)
			_, at := inner(api.MaxNest+1, "{}")
			refuses(t, deep, at, api.ErrNest)
		}
	}
	// What stands ahead of the Template goes first, what stands behind it later.
	for props, want := range map[string]struct {
		at string
		e  api.Errno
	}{
		"{'Template':{},'X':1}": {"/X", api.ErrSection}, "{'Parameters':1}": {"", api.ErrSection}, "null": {"", api.ErrSection},
		"{'Template':{},'Parameters':1}": {"/Template", api.ErrNest},
	} {
		s, at := inner(api.MaxNest, "{'Resources':{'M':{'Type':'Stack','Properties':"+props+"}}}")
		refuses(t, s, at+"/Resources/M/Properties"+want.at, want.e)
	}
}

// P13.2: an expression that is none, wherever one stands.
func TestExprPlaces(t *testing.T) {
	nested, at := inner(2, "{'Outputs':{'O':{'Value':@}}}")
	for around, place := range map[string]string{
		"{'Conditions':{'C':{'Equals':[@,1]}}}":                                                         "Conditions/C/Equals/0",
		"{'Conditions':{'C':{'Equals':[@,null]}}}":                                                      "Conditions/C/Equals/0",
		"{'Conditions':{'C':{'Equals':[1,@]},'D':1}}":                                                   "Conditions/C/Equals/1",
		"{'Conditions':{'C':{'Or':[{'Condition':'D'},{'Not':[{'Equals':[@,1]}]},null]}}}":               "Conditions/C/Or/1/Not/0/Equals/0",
		"{'Resources':{'R':{'Type':'Disk','Properties':{'B':null,'A':@}}}}":                             "Resources/R/Properties/A",
		"{'Resources':{'R':{'Type':'Disk','Properties':{'A':[],'B':@,'C':null}}}}":                      "Resources/R/Properties/B",
		"{'Resources':{'R':{'Type':'Stack','Properties':{'Template':{},'Parameters':{'P':@}}}}}":        "Resources/R/Properties/Parameters/P",
		"{'Outputs':{'O':{'Condition':'C','Value':@}}}":                                                 "Outputs/O/Value",
		"{'Resources':{'R':{'Type':'Disk','DependsOn':[],'Properties':{'Aa':{'If':['C',1,[2,3,@]]}}}}}": "Resources/R/Properties/Aa/If/2/2",
		nested: at + "/Outputs/O/Value",
	} {
		for s, want := range noExprs() {
			refuses(t, strings.ReplaceAll(around, "@", s), beneath(place, want.at, s), want.e)
		}
	}
}

// P13.2: all that has names stands by them, rising bytewise; what has none as it is written.
func TestInOrder(t *testing.T) {
	reads(t, `{
		'Outputs':{'b':{'Value':1},'a':{'Value':2},'B':{'Value':3},'a1':{'Value':4},'A9':{'Value':5},'A10':{'Value':6}},
		'Resources':{'b':{'Type':'X'},'Z':{'Type':'Y','Properties':{'z':1,'y':2,'Y':3},'DependsOn':['z','b','a']},'aa':{'Type':'Stack','Properties':{'Template':{'Outputs':{'y':{'Value':1},'x':{'Value':2}}},'Parameters':{'q':1,'p':2}}}},
		'Conditions':{'c':{'Or':[{'Condition':'b'},{'Condition':'a'}]},'b':{'Equals':[2,1]},'a':{'Equals':[1,2]}},
		'Parameters':{'Q':{'Type':'String','AllowedValues':['z','a']},'P':{'Type':'Number'},'p':{'Type':'String'}}
	}`, api.Template{
		Params: []api.Param{{Name: "P", Number: true}, {Name: "Q", Allowed: []api.Value{tree.Text("z"), tree.Text("a")}}, {Name: "p"}},
		Conds:  []api.Cond{named("a", equals(num(1), num(2))), named("b", equals(num(2), num(1))), named("c", conds(api.CoOr, cond("b"), cond("a")))},
		Res: []api.Resource{
			{Id: "Z", Type: "Y", Props: []api.Prop{{Name: "Y", E: num(3)}, {Name: "y", E: num(2)}, {Name: "z", E: num(1)}}, Depends: []string{"z", "b", "a"}},
			{Id: "aa", Type: "Stack", Props: []api.Prop{{Name: "p", E: num(2)}, {Name: "q", E: num(1)}}, Inner: []api.Template{{Outs: []api.Output{{Name: "x", E: num(2)}, {Name: "y", E: num(1)}}}}},
			{Id: "b", Type: "X"},
		},
		Outs: []api.Output{{Name: "A10", E: num(6)}, {Name: "A9", E: num(5)}, {Name: "B", E: num(3)}, {Name: "a", E: num(2)}, {Name: "a1", E: num(4)}, {Name: "b", E: num(1)}},
	})
}
