package syntax

import (
	"math"
	"slices"

	"hoarding/api"
	"hoarding/print"
	"hoarding/runes"
	"hoarding/tree"
)

// stack is the type of nested stacks.
const stack = "Stack"

// template reads a template.
func (p part) template() (t api.Template) {
	p.want(p.nest <= api.MaxNest, api.ErrNest)
	p.fields(0, []string{"Parameters", "Conditions", "Resources", "Outputs"}, map[string]func(part){
		"Parameters": func(p part) { t.Params = section(p, api.MaxParams, part.param) },
		"Conditions": func(p part) { t.Conds = section(p, api.MaxConds, part.defined) },
		"Resources":  func(p part) { t.Res = section(p, api.MaxRes, part.resource) },
		"Outputs":    func(p part) { t.Outs = section(p, api.MaxOuts, part.output) },
	})
	return t
}

// section reads a section of definitions.
func section[T any](p part, most int, read func(p part, name string) T) []T {
	p.want(p.v.Kind == api.Object, api.ErrSection)
	p.want(len(p.v.List) <= most, api.ErrLong)
	return named(p, read)
}

// param reads a parameter's definition.
func (p part) param(name string) api.Param {
	x := api.Param{Name: name}
	p.fields(1, []string{"Type", "Default", "AllowedValues"}, map[string]func(part){
		"Type":          func(p part) { x.Number = p.choice("String", "Number") },
		"Default":       func(p part) { x.Has, x.Default = true, p.value(x.Number) },
		"AllowedValues": func(p part) { x.Allowed = p.allowed(x.Number) },
	})
	return x
}

// value reads a parameter's value.
func (p part) value(isNumber bool) api.Value {
	if !isNumber {
		return tree.Text(p.text(print.Word, api.ErrSection))
	}
	p.want(p.v.Kind == api.Number, api.ErrSection)
	return tree.Num(p.v.Num)
}

// allowed reads the values that a parameter may have.
func (p part) allowed(isNumber bool) []api.Value {
	parts := p.row(1, math.MaxInt, api.ErrSection)
	l := each(parts, func(p part) api.Value { return p.value(isNumber) })
	p.want(len(l) <= api.MaxList, api.ErrLong)
	return l
}

// output reads an output's definition.
func (p part) output(name string) api.Output {
	o := api.Output{Name: name}
	p.fields(1, []string{"Value", "Condition"}, map[string]func(part){
		"Value":     func(p part) { o.E = p.expr() },
		"Condition": func(p part) { o.Cond = p.name() },
	})
	return o
}

// resource reads a resource's definition.
func (p part) resource(id string) api.Resource {
	r := api.Resource{Id: id}
	p.fields(1, []string{"Type", "Condition", "DependsOn", "DeletionPolicy", "Properties"}, map[string]func(part){
		"Type":           func(p part) { r.Type = p.name() },
		"Condition":      func(p part) { r.Cond = p.name() },
		"DependsOn":      func(p part) { r.Depends = p.depends() },
		"DeletionPolicy": func(p part) { r.Retain = p.choice("Delete", "Retain") },
		"Properties":     func(p part) { r.Props, r.Inner = p.properties(r.Type) },
	})
	// Asked last, since the Properties are the last key.
	_, given := p.under("Properties")
	p.want(given || r.Type != stack, api.ErrSection)
	return r
}

// depends reads the names on which a resource depends. A name twice is told behind all else that is wrong with them, as the promise names it last.
func (p part) depends() []string {
	if p.v.Kind == api.Text {
		return []string{p.name()}
	}
	parts := p.row(0, math.MaxInt, api.ErrSection)
	l := each(parts, part.name)
	p.want(len(l) <= api.MaxList, api.ErrLong)
	for i, name := range l {
		parts[i].want(!slices.Contains(l[:i], name), api.ErrTwice)
	}
	return l
}

// properties reads the Properties of a resource of that type: its own, or a nested stack's arguments and template.
func (p part) properties(kind string) (props []api.Prop, inner []api.Template) {
	if kind != stack {
		return named(p, part.prop), nil
	}
	p.fields(1, []string{"Template", "Parameters"}, map[string]func(part){
		"Template": func(p part) {
			p.nest++
			inner = []api.Template{p.template()}
		},
		"Parameters": func(p part) { props = named(p, part.prop) },
	})
	return props, inner
}

// prop reads a property, or an argument.
func (p part) prop(name string) api.Prop { return api.Prop{Name: name, E: p.expr()} }

// name reads a name.
func (p part) name() string { return p.text(runes.Name, api.ErrSection) }
