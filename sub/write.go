package sub

import (
	"strings"

	"hoarding/api"
	"hoarding/runes"
)

// mayBe tells whether x may be a part, whatever stands around it.
func mayBe(x api.Expr) bool {
	if x.Num != 0 || len(x.L) > 0 {
		return false
	}
	switch x.Kind {
	case api.ExText:
		return x.Name == "" && x.Attr == "" && x.Text != "" && runes.Valid(x.Text)
	case api.ExRef:
		return x.Text == "" && x.Attr == "" && runes.Name(x.Name)
	case api.ExAtt:
		return x.Text == "" && runes.Name(x.Name) && Attr(x.Attr)
	}
	return false
}

// put writes the part x behind b; false, if it is a text that can't be written.
func put(b *strings.Builder, x api.Expr) bool {
	switch x.Kind {
	case api.ExText:
		return putText(b, x.Text)
	case api.ExRef:
		b.WriteString("${" + x.Name + "}")
	default:
		b.WriteString("${" + x.Name + "." + x.Attr + "}")
	}
	return true
}

// putText writes s behind b, so that no ${ in it begins a hole; false, if no } stands behind one.
func putText(b *strings.Builder, s string) bool {
	for {
		ahead, rest, found := strings.Cut(s, "${")
		b.WriteString(ahead)
		if !found {
			return true
		}
		// Up to the } all stays as it is: another ${ ahead of it begins no hole.
		inner, behind, closed := strings.Cut(rest, "}")
		if !closed {
			return false
		}
		b.WriteString("${!" + inner + "}")
		s = behind
	}
}
