package syntax_test

import (
	"reflect"
	"slices"
	"sync"
	"testing"

	"hoarding/api"
	"hoarding/print"
	"hoarding/syntax"
	"hoarding/tree"
)

// pool are the texts of values that are put in the place of others.
var pool = []string{
	"null", "true", "0", "-7", "''", "'A'", "'1'", "'a b'", "'String'", "'Number'", "'Retain'", "'Delete'", "'Stack'", "'${A.Arn}'", "'${'", "'" + word(65) + "'",
	"[]", "['A']", "['A','A']", "['A','B']", "[1,2]", "[null,null]", "['A',1]", "['A','Arn']", "['A',1,2]", "['A','B','C','D','E']", "[" + many(8, "'A#'") + "]", "[" + many(9, "'A#'") + "]", "[" + many(9, "1") + "]", "[{'Condition':'C'}]", "[" + many(5, "{'Condition':'C'}") + "]",
	"{}", "{'X':1}", "{'Ref':'A'}", "{'Ref':1}", "{'Ref':'A','Sub':''}", "{'Sub':'a${B}'}", "{'Sub':'${'}", "{'GetAtt':['A','Outputs.B']}", "{'If':['C',1,2]}", "{'Join':['-',[]]}", "{'Select':[0,null]}",
	"{'Equals':[1,1]}", "{'Condition':'C'}", "{'Not':[{'Condition':'C'}]}", "{'Type':'Disk'}", "{'Type':'String'}", "{'Value':1}", "{'A':{'Type':'Stack'}}", "{'A':1,'B':null}", "{'1':1}",
	"{'Template':{}}", "{'Template':{'Resources':{'Z':{'Type':'Stack','Properties':{'Template':{'Resources':{'Z':{'Type':'Stack','Properties':{'Template':{}}}}}}}}}}", "{'Resources':{'A':{'Type':'Disk'}}}", "{'Resources':{'Z':{'Type':'Stack','Properties':{'Template':{}}}}}", "{" + many(9, "'A#':{'Type':'Disk'}") + "}", "{" + many(7, "'A#':{'Value':'a'}") + "}", "{" + many(6, "'A#':1") + "}",
}

// values are the pool's.
var values = sync.OnceValue(func() (l []api.Value) {
	for _, s := range pool {
		l = append(l, value(s))
	}
	return l
})

// keys are put in the place of others.
var keys = []string{"", "1", "A", "a b", "Aa", "Z", "Condition", "Ref", "Sub", "Equals", "And", "Or", "Not", "Type", "Default", "AllowedValues", "Value", "Template", "Parameters", "Properties", "DependsOn", "Resources", word(33)}

// mutants calls deal with each value that is v but for one place, which has another value, a part more or less, or another key.
func mutants(v api.Value, deal func(api.Value)) {
	v = clone(v)
	var at func(x *api.Value)
	at = func(x *api.Value) {
		for i := range x.List {
			at(&x.List[i])
		}
		was := *x
		for _, other := range values() {
			*x = other
			deal(v)
			if was.Kind == api.List {
				*x = api.Value{Kind: api.List, List: append(slices.Clip(was.List), other)}
				deal(v)
			}
		}
		for i := range was.List {
			*x = api.Value{Kind: was.Kind, List: slices.Delete(slices.Clone(was.List), i, i+1)}
			if was.Kind == api.Object {
				x.Keys = slices.Delete(slices.Clone(was.Keys), i, i+1)
			}
			deal(v)
		}
		for _, key := range keys {
			if was.Kind != api.Object || slices.Contains(was.Keys, key) {
				continue
			}
			for i := range was.Keys {
				*x = clone(was)
				x.Keys[i] = key
				deal(v)
			}
			for _, other := range values()[:3] {
				*x = api.Value{Kind: api.Object, List: append(slices.Clip(was.List), other), Keys: append(slices.Clip(was.Keys), key)}
				deal(v)
			}
		}
		*x = was
	}
	at(&v)
}

// counted counts what is taken and refused, and how.
type counted map[api.Errno]int

// holdsTemplate holds what is told of v against the second reading, and what is written of what is read.
func (n counted) holdsTemplate(t *testing.T, v api.Value) {
	t.Helper()
	got, at, e := syntax.Read(v)
	n[e]++
	if want := first(v, wrongTemplate(v, "", 0)); want != (wrong{at, e}) || e != api.OK && !same(got, api.Template{}) {
		s, _ := print.Print(v)
		t.Fatalf("Read(%s): %+v, %q, %d; not %q, %d", s, got, at, e, want.at, want.e)
	}
	if e != api.OK {
		return
	}
	w, e := syntax.Write(got)
	again, at, e2 := syntax.Read(w)
	if e != api.OK || e2 != api.OK || at != "" || !same(w, tree.Sorted(w)) || !reflect.DeepEqual(asItIs("", w), asTemplate("", v)) || !same(again, got) || !syntax.Same(again, got) {
		s, _ := print.Print(v)
		t.Fatalf("Write(Read(%s)): %+v, %d; %+v, %q, %d", s, w, e, again, at, e2)
	}
}

// holdsExpr does so of an expression.
func (n counted) holdsExpr(t *testing.T, v api.Value) {
	t.Helper()
	got, at, e := syntax.Expr(v)
	n[e]++
	if want := first(v, wrongExpr(v, "")); want != (wrong{at, e}) || e != api.OK && !same(got, api.Expr{}) {
		s, _ := print.Print(v)
		t.Fatalf("Expr(%s): %+v, %q, %d; not %q, %d", s, got, at, e, want.at, want.e)
	}
	if e != api.OK {
		return
	}
	w, e := syntax.WriteExpr(got)
	again, at, e2 := syntax.Expr(w)
	if e != api.OK || e2 != api.OK || at != "" || !same(w, tree.Sorted(v)) || !same(again, got) || !syntax.SameExpr(again, got) {
		s, _ := print.Print(v)
		t.Fatalf("WriteExpr(Expr(%s)): %+v, %d; %+v, %q, %d", s, w, e, again, at, e2)
	}
}

// few calls deal with one of n.
func few(n int, deal func(api.Value)) func(api.Value) {
	i := 0
	return func(v api.Value) {
		if i++; i%n == 0 {
			deal(v)
		}
	}
}

// P13.2, P13.3, P13.4: a template in which one place is changed, or two.
func TestAllTemplates(t *testing.T) {
	deepest, _ := inner(api.MaxNest, "{'Resources':{'A':{'Type':'Disk','DependsOn':'B','Properties':{'Size':1}}},'Parameters':{'P':{'Type':'Number'}}}")
	n := counted{}
	deal := func(v api.Value) { n.holdsTemplate(t, v) }
	for _, s := range []string{rough, deepest} {
		mutants(value(s), deal)
		mutants(value(s), few(100, func(v api.Value) { mutants(v, few(53, deal)) }))
	}
	for e, least := range map[api.Errno]int{api.OK: 1500, api.ErrSection: 10000, api.ErrShape: 3000, api.ErrLong: 100, api.ErrSub: 50, api.ErrTwice: 5, api.ErrNest: 3} {
		if n[e] < least {
			t.Errorf("only %d of %d: %v", n[e], e, n)
		}
	}
}

// P13.1, P13.3, P13.4: an expression in which one place is changed, or two.
func TestAllExprs(t *testing.T) {
	n := counted{}
	deal := func(v api.Value) { n.holdsExpr(t, v) }
	for _, s := range []string{"1", "[]", "['a',{'Ref':'A'},{'GetAtt':['A','Arn']},['b',1]]", "{'Join':['-',['a',{'Sub':'x${A}'},{'If':['C',1,{'Select':[0,['a']]}]}]]}", "{'If':['C',{'If':['D',1,{}]},{'X':1}]}"} {
		mutants(value(s), deal)
		mutants(value(s), few(7, func(v api.Value) { mutants(v, few(11, deal)) }))
	}
	for e, least := range map[api.Errno]int{api.OK: 3000, api.ErrShape: 3000, api.ErrLong: 300, api.ErrSub: 100} {
		if n[e] < least {
			t.Errorf("only %d of %d: %v", n[e], e, n)
		}
	}
}
