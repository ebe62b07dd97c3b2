package print

import (
	"strconv"
	"strings"

	"hoarding/api"
	"hoarding/number"
	"hoarding/runes"
)

// page is what values are written on: those that tree.Check lets be, and that are sorted.
type page struct {
	strings.Builder
	colon string                  // what stands between a key and its value
	line  func(deeper int) string // goes so many levels deeper; answers what stands ahead of a part there
	over  bool                    // a text was left out, since the whole would be too long
}

// lines answers a page's function line, where each part has a line of its own.
func lines() func(deeper int) string {
	deep := 0
	return func(deeper int) string {
		deep += deeper
		return "\n" + strings.Repeat("  ", deep)
	}
}

// oneLine is a page's function line, where all parts stand on one.
func oneLine(int) string { return "" }

// kinds has the method that writes each kind of values.
func kinds() [api.Object + 1]func(*page, api.Value) {
	return [...]func(*page, api.Value){
		api.Null:   (*page).null,
		api.Bool:   (*page).truth,
		api.Number: (*page).number,
		api.Text:   (*page).text,
		api.List:   (*page).list,
		api.Object: (*page).object,
	}
}

func (p *page) put(v api.Value) { kinds()[v.Kind](p, v) }

func (p *page) null(api.Value) { p.WriteString("null") }

func (p *page) truth(v api.Value) { p.WriteString(strconv.FormatBool(v.Bool)) }

func (p *page) number(v api.Value) {
	s, _ := number.Text(v.Num)
	p.WriteString(s)
}

func (p *page) text(v api.Value) { p.quote(v.Text) }

func (p *page) list(v api.Value) {
	p.row('[', len(v.List), func(i int) { p.put(v.List[i]) }, ']')
}

func (p *page) object(v api.Value) {
	p.row('{', len(v.List), func(i int) {
		p.quote(v.Keys[i])
		p.WriteString(p.colon)
		p.put(v.List[i])
	}, '}')
}

// quote writes s between quotes. One long text may stand in thousands of places: what can't go on the page any more is left out, not put together first.
func (p *page) quote(s string) {
	if p.Len()+len(s) > longest {
		p.over = true
		return
	}
	written, _ := runes.Quote(s)
	p.WriteString(written)
}

// row writes n parts, each by the function part, with commas between, in brackets.
func (p *page) row(open byte, n int, part func(i int), end byte) {
	p.WriteByte(open)
	if n > 0 {
		ahead := p.line(1)
		for i := range n {
			if i > 0 {
				p.WriteByte(',')
			}
			p.WriteString(ahead)
			part(i)
		}
		p.WriteString(p.line(-1))
	}
	p.WriteByte(end)
}
