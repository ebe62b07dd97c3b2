package parse

import (
	"strings"

	"hoarding/api"
	"hoarding/number"
	"hoarding/runes"
	"hoarding/tree"
)

// walk goes over a text, from left to right, and panics with the first fault.
type walk struct {
	s    string
	at   int    // where it stands: what is ahead has been read
	deep int    // how deep the value stands that is read
	open []part // the lists and objects around the place where it stands, from outside
}

// part is what has been read of a list or an object.
type part struct {
	v    api.Value
	end  byte                // the sign that closes it
	keys map[string]struct{} // an object's
}

// fault is what ends a walk.
type fault struct {
	at int
	e  api.Errno
}

// value reads the value that begins where w stands. It does not call itself: from a deep below 0 on a value may be deeper than the stack of calls can grow.
func (w *walk) value() api.Value {
	for {
		v, whole := w.begin()
		for whole && len(w.open) > 0 {
			v, whole = w.put(v)
		}
		if whole {
			return v
		}
	}
}

// begin reads the beginning of a value; whole: there is no more of it.
func (w *walk) begin() (v api.Value, whole bool) {
	switch {
	case w.at < 0 || w.at >= len(w.s):
		panic(fault{len(w.s), api.ErrJson})
	case w.deep+len(w.open) > api.MaxDeep:
		panic(fault{w.at, api.ErrDeep})
	}
	switch c := w.s[w.at]; {
	case c == 'n':
		return w.word("null", api.Value{}), true
	case c == 'f':
		return w.word("false", api.Value{Kind: api.Bool}), true
	case c == 't':
		return w.word("true", api.Value{Kind: api.Bool, Bool: true}), true
	case c == '-' || number.Digit(c):
		return tree.Num(w.number()), true
	case c == '"':
		return tree.Text(w.text()), true
	case c == '[':
		return w.enter(part{v: api.Value{Kind: api.List}, end: ']'})
	case c == '{':
		return w.enter(part{v: api.Value{Kind: api.Object}, end: '}', keys: map[string]struct{}{}})
	}
	panic(fault{w.at, api.ErrJson})
}

// word reads the word, which stands for v.
func (w *walk) word(word string, v api.Value) api.Value {
	if !strings.HasPrefix(w.s[w.at:], word) {
		panic(fault{w.at, api.ErrJson})
	}
	w.at += len(word)
	return v
}

func (w *walk) number() int {
	n, end, e := number.Scan(w.s, w.at)
	if e != api.OK {
		panic(fault{end, e})
	}
	w.at = end
	return n
}

func (w *walk) text() string {
	s, end, e := runes.Unquote(w.s, w.at)
	if e != api.OK {
		panic(fault{end, e})
	}
	w.at = end
	return s
}

// enter goes into the list or object that opens here; if it is empty, out again.
func (w *walk) enter(p part) (v api.Value, whole bool) {
	w.open = append(w.open, p)
	w.at++
	w.blanks()
	if w.stands(p.end) {
		return w.leave(), true
	}
	w.key()
	return api.Value{}, false
}

// put puts v into the innermost list or object; where that closes behind it, it is answered, whole.
func (w *walk) put(v api.Value) (outer api.Value, whole bool) {
	p := w.inner()
	p.v.List = append(p.v.List, v)
	w.blanks()
	if w.stands(p.end) {
		return w.leave(), true
	}
	w.sign(',')
	w.key()
	return api.Value{}, false
}

// leave goes over the sign that closes the innermost list or object, which it answers.
func (w *walk) leave() api.Value {
	v := w.inner().v
	w.open = w.open[:len(w.open)-1]
	w.at++
	return v
}

// key reads what stands ahead of a value: in an object a key and a colon, in a list nothing.
func (w *walk) key() {
	p := w.inner()
	if p.v.Kind == api.List {
		return
	}
	// Asked here: where there is no quote at all, Unquote would tell of a text that is none.
	if !w.stands('"') {
		panic(fault{w.at, api.ErrJson})
	}
	quote := w.at
	key := w.text()
	if _, ok := p.keys[key]; ok {
		panic(fault{quote, api.ErrTwice})
	}
	p.keys[key] = struct{}{}
	p.v.Keys = append(p.v.Keys, key)
	w.blanks()
	w.sign(':')
}

// sign reads the sign c and the blanks behind it.
func (w *walk) sign(c byte) {
	if !w.stands(c) {
		panic(fault{w.at, api.ErrJson})
	}
	w.at++
	w.blanks()
}

func (w *walk) blanks() { w.at = Blanks(w.s, w.at) }

// stands tells whether the byte c stands here.
func (w *walk) stands(c byte) bool { return w.at < len(w.s) && w.s[w.at] == c }

// inner answers the innermost list or object.
func (w *walk) inner() *part { return &w.open[len(w.open)-1] }
