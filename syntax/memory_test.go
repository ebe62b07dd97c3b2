package syntax_test

import (
	"reflect"
	"testing"

	"hoarding/api"
	"hoarding/syntax"
)

// rough is a template's text with all that can be read, much of it in another order, or in another way, than it is written.
const rough = `{
	'Resources':{
		'R':{'Properties':{'Tags':['a','b'],'Port':80},'Type':'Rule','DependsOn':'A','DeletionPolicy':'Delete'},
		'N':{'Type':'Stack','DependsOn':['R','A'],'DeletionPolicy':'Retain','Condition':'C','Properties':{
			'Parameters':{'T':{'Join':['-',['x',{'Ref':'P'}]]},'S':{'If':['C',1,{'Sub':'x${P}'}]}},
			'Template':{'Resources':{'B':{'Type':'Disk','Properties':{}}},'Parameters':{'S':{'Type':'String'}},'Outputs':{}}
		}},
		'A':{'Type':'Disk','DependsOn':[]}
	},
	'Parameters':{'Q':{'AllowedValues':[2,1],'Type':'Number','Default':1},'P':{'Type':'String','Default':'a'}},
	'Outputs':{'O':{'Value':{'GetAtt':['A','Arn']},'Condition':'C'},'M':{'Value':{'Select':[0,[1,{'Ref':'A'}]]}}},
	'Conditions':{'D':{'Not':[{'Condition':'C'}]},'C':{'And':[{'Equals':[{'Ref':'P'},'a']},{'Equals':[1,2]}]}}
}`

// apart wants no two lists of these to share memory, room to spare with it.
func apart(t *testing.T, name string, all ...any) {
	t.Helper()
	owner := map[uintptr]int{}
	n := 0
	for _, x := range all {
		lists(reflect.ValueOf(x), func(l reflect.Value) {
			n++
			size := l.Type().Elem().Size()
			for at := range uintptr(l.Len()) {
				p := l.Pointer() + at*size
				if other, ok := owner[p]; ok && other != n {
					t.Errorf("%s: lists %d and %d share", name, other, n)
				}
				owner[p] = n
			}
		})
	}
}

// R4: what is told is new memory, list by list, and shares none with what was handed in.
func TestApart(t *testing.T) {
	for _, s := range []string{rough, "{}", "{'Resources':{}}", "{'Conditions':{'C':{'Equals':[[],[]]}}}"} {
		v := roomy(value(s))
		one, _, e := syntax.Read(v)
		two, _, _ := syntax.Read(v)
		three, e2 := syntax.Write(one)
		four, _ := syntax.Write(one)
		if e != api.OK || e2 != api.OK {
			t.Errorf("%s: %d, %d", s, e, e2)
		}
		apart(t, s, v, one, two, three, four)
		room := roomy(one)
		five, _ := syntax.Write(room)
		apart(t, s, room, five)
	}
	for _, s := range []string{"'a'", "[]", "[1,['a',[]]]", "{'Sub':'a${B}${C.D}'}", "{'Join':['-',{'Select':[0,['a']]}]}", "{'If':['C',{'Ref':'A'},{'GetAtt':['A','Arn']}]}"} {
		v := roomy(value(s))
		one, _, e := syntax.Expr(v)
		two, _, _ := syntax.Expr(v)
		three, e2 := syntax.WriteExpr(one)
		four, _ := syntax.WriteExpr(roomy(one))
		if e != api.OK || e2 != api.OK {
			t.Errorf("%s: %d, %d", s, e, e2)
		}
		apart(t, s, v, one, two, three, four)
	}
	// Where a text or a number has lists of nothing, with room behind.
	v := roomy(value("{'Parameters':{'P':{'Type':'String','Default':'a','AllowedValues':['a','b']}}}"))
	one, _, _ := syntax.Read(v)
	two, e := syntax.Write(roomy(one))
	if e != api.OK || cap(one.Params[0].Default.List) != 0 || cap(one.Params[0].Allowed[0].Keys) != 0 {
		t.Errorf("%+v, %d", one, e)
	}
	apart(t, "a default", v, one, two)
}

// unchanged wants x, which is roomy, not to be changed by the call, in its room neither.
func unchanged[T any](t *testing.T, name string, x T, call func()) {
	t.Helper()
	var was, is []any
	tell := func(to *[]any) func(reflect.Value) {
		return func(l reflect.Value) {
			for i := range l.Len() {
				*to = append(*to, l.Index(i).Interface())
			}
		}
	}
	lists(reflect.ValueOf(clones(x)), tell(&was))
	call()
	lists(reflect.ValueOf(x), tell(&is))
	if len(was) != len(is) {
		t.Fatalf("%s: %d, %d", name, len(was), len(is))
	}
	for i := range was {
		if !same(was[i], is[i]) {
			t.Errorf("%s: %+v became %+v", name, was[i], is[i])
		}
	}
}

// clones answers roomy x in other memory, with the same room.
func clones[T any](x T) T {
	v := reflect.New(reflect.TypeFor[T]()).Elem()
	v.Set(reflect.ValueOf(x))
	var copyAll func(v reflect.Value)
	copyAll = func(v reflect.Value) {
		switch v.Kind() {
		case reflect.Struct:
			for i := range v.NumField() {
				copyAll(v.Field(i))
			}
		case reflect.Slice:
			n, whole := v.Len(), v.Slice(0, v.Cap())
			fresh := reflect.MakeSlice(v.Type(), whole.Len(), whole.Len())
			reflect.Copy(fresh, whole)
			for i := range n {
				copyAll(fresh.Index(i))
			}
			v.Set(fresh.Slice(0, n))
		}
	}
	copyAll(v)
	return v.Interface().(T)
}

// R4: what is handed in is not changed, what stands behind it neither, whether it is taken or refused.
func TestUnchanged(t *testing.T) {
	for _, s := range []string{rough, "{}", "{'X':1,'Resources':{'b':1,'a':2}}", "{'Resources':{'B':{},'A':{'Type':'X','DependsOn':['b','a','b']}}}", "['a',{'Ref':'A'},{'If':['C',[],{}]}]", "{'Join':['-',['a',{'Sub':'${A}'}]]}"} {
		v := roomy(value(s))
		unchanged(t, "Read "+s, v, func() { syntax.Read(v) })
		unchanged(t, "Expr "+s, v, func() { syntax.Expr(v) })
	}
	for _, x := range samples() {
		a, b := roomy(x), roomy(sample())
		unchanged(t, "Write", a, func() { syntax.Write(a) })
		unchanged(t, "Same", a, func() { syntax.Same(a, b) })
		unchanged(t, "Same, about", a, func() { syntax.Same(b, a) })
	}
	for _, x := range []api.Expr{list(text("b"), sub(text("a"), ref("B")), when("C", num(1), num(2))), choose(num(1)), join("-", list(ref("1"))), sub(text("a"), text("b"))} {
		a, b := roomy(x), roomy(x)
		unchanged(t, "WriteExpr", a, func() { syntax.WriteExpr(a) })
		unchanged(t, "SameExpr", a, func() { syntax.SameExpr(a, b) })
		unchanged(t, "SameExpr, about", b, func() { syntax.SameExpr(a, b) })
	}
}

// R3, R4: nothing is kept: what is done to what was handed in, or told, changes nothing that comes later, nor what was told ahead.
func TestNothingKept(t *testing.T) {
	spoil := func(x any) { lists(reflect.ValueOf(x), func(l reflect.Value) { spoilList(l) }) }
	want, _, _ := syntax.Read(value(rough))
	wantValue, _ := syntax.Write(want)
	if len(wantValue.List) != 4 {
		t.Fatal(wantValue)
	}
	for range 3 {
		v := roomy(value(rough))
		one, _, _ := syntax.Read(v)
		two, _, _ := syntax.Read(v)
		spoil(v)
		spoil(two)
		if !same(one, want) {
			t.Errorf("%+v", one)
		}
		x := roomy(one)
		three, _ := syntax.Write(x)
		four, _ := syntax.Write(x)
		spoil(x)
		spoil(four)
		if !same(three, wantValue) || !same(one, want) {
			t.Errorf("%+v, %+v", three, one)
		}
		noExpr(t, "[1,{'X':1}]", "1/X", api.ErrShape)
		refuses(t, "{'Resources':{'A':{'Type':1}}}", "Resources/A/Type", api.ErrSection)
		isExpr(t, "[1,{'Ref':'X'}]", list(num(1), ref("X")))
	}
}

func spoilList(l reflect.Value) {
	for i := range l.Len() {
		mark(l.Index(i))
	}
}
