package syntax

import (
	"hoarding/api"
	"hoarding/sub"
	"hoarding/tree"
)

// writer makes values, also of what nothing reads. It ends the walk where no value that may be has so much, since a list can be made to hold itself.
type writer struct {
	deep int // how many templates, conditions and expressions it is within
	made int // how many of all rows' items were begun
}

// field is a key and its value; with null it is left out.
type field struct {
	key string
	v   api.Value
}

// object answers the object of these fields.
func object(fields ...field) api.Value {
	v := api.Value{Kind: api.Object}
	for _, f := range fields {
		if f.v.Kind != api.Null {
			v.Keys, v.List = append(v.Keys, f.key), append(v.List, f.v)
		}
	}
	return v
}

// full answers v, or null, if it has no parts.
func full(v api.Value) api.Value {
	if len(v.List) == 0 {
		return api.Value{}
	}
	return v
}

// given answers the text s, or null, if it is empty.
func given(s string) api.Value {
	if s == "" {
		return api.Value{}
	}
	return tree.Text(s)
}

// list answers the list of these values.
func list(l ...api.Value) api.Value { return api.Value{Kind: api.List, List: l} }

func (w *writer) want(ok bool) { part{}.want(ok, api.ErrShape) }

func (w *writer) enter() {
	w.deep++
	w.want(w.deep <= api.MaxDeep)
}

func (w *writer) leave() { w.deep-- }

// row answers what one writes of each of l.
func row[T, V any](w *writer, l []T, one func(T) V) []V {
	var out []V
	for _, x := range l {
		w.made++
		w.want(w.made <= api.MaxText)
		out = append(out, one(x))
	}
	return out
}

// template writes a template.
func (w *writer) template(t api.Template) api.Value {
	w.enter()
	defer w.leave()
	return object(
		field{"Parameters", full(object(row(w, t.Params, w.param)...))},
		field{"Conditions", full(object(row(w, t.Conds, w.defined)...))},
		field{"Resources", full(object(row(w, t.Res, w.resource)...))},
		field{"Outputs", full(object(row(w, t.Outs, w.output)...))},
	)
}

// param writes a parameter's definition.
func (w *writer) param(p api.Param) field {
	kind, value := "String", func(v api.Value) api.Value { return tree.Text(v.Text) }
	if p.Number {
		kind, value = "Number", func(v api.Value) api.Value { return tree.Num(v.Num) }
	}
	var preset api.Value
	if p.Has {
		preset = value(p.Default)
	}
	return field{p.Name, object(
		field{"Type", tree.Text(kind)},
		field{"Default", preset},
		field{"AllowedValues", full(list(row(w, p.Allowed, value)...))},
	)}
}

// defined writes a condition's definition.
func (w *writer) defined(c api.Cond) field { return field{c.Name, w.cond(c)} }

// cond writes a condition.
func (w *writer) cond(c api.Cond) api.Value {
	w.enter()
	defer w.leave()
	switch c.Kind {
	case api.CoEquals:
		return object(field{"Equals", list(w.expr(c.A), w.expr(c.B))})
	case api.CoAnd:
		return object(field{"And", list(row(w, c.L, w.cond)...)})
	case api.CoOr:
		return object(field{"Or", list(row(w, c.L, w.cond)...)})
	case api.CoNot:
		return object(field{"Not", list(row(w, c.L, w.cond)...)})
	}
	w.want(c.Kind == api.CoName)
	return object(field{"Condition", tree.Text(c.Name)})
}

// resource writes a resource's definition.
func (w *writer) resource(r api.Resource) field {
	policy := ""
	if r.Retain {
		policy = "Retain"
	}
	props := full(object(row(w, r.Props, w.prop)...))
	if r.Type == stack {
		w.want(len(r.Inner) == 1)
		props = object(field{"Template", w.template(r.Inner[0])}, field{"Parameters", props})
	}
	return field{r.Id, object(
		field{"Type", tree.Text(r.Type)},
		field{"Condition", given(r.Cond)},
		field{"DependsOn", full(list(row(w, r.Depends, tree.Text)...))},
		field{"DeletionPolicy", given(policy)},
		field{"Properties", props},
	)}
}

// prop writes a property, or an argument.
func (w *writer) prop(p api.Prop) field { return field{p.Name, w.expr(p.E)} }

// output writes an output's definition.
func (w *writer) output(o api.Output) field {
	return field{o.Name, object(field{"Value", w.expr(o.E)}, field{"Condition", given(o.Cond)})}
}

// expr writes an expression.
func (w *writer) expr(x api.Expr) api.Value {
	w.enter()
	defer w.leave()
	switch x.Kind {
	case api.ExText:
		return tree.Text(x.Text)
	case api.ExNumber:
		return tree.Num(x.Num)
	case api.ExList:
		return list(row(w, x.L, w.expr)...)
	case api.ExRef:
		return object(field{"Ref", tree.Text(x.Name)})
	case api.ExAtt:
		return object(field{"GetAtt", list(tree.Text(x.Name), tree.Text(x.Attr))})
	case api.ExSub:
		s, e := sub.Write(x.L)
		w.want(e == api.OK)
		return object(field{"Sub", tree.Text(s)})
	case api.ExIf:
		return object(field{"If", list(append([]api.Value{tree.Text(x.Name)}, row(w, x.L, w.expr)...)...)})
	case api.ExJoin:
		return object(field{"Join", list(append([]api.Value{tree.Text(x.Text)}, row(w, x.L, w.expr)...)...)})
	}
	w.want(x.Kind == api.ExSelect)
	return object(field{"Select", list(row(w, x.L, w.expr)...)})
}
