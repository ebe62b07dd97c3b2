package parse_test

import (
	"encoding/json"
	"strings"
	"testing"

	"hoarding/api"
	"hoarding/parse"
	"hoarding/tree"
)

// told answers what JSON tells of s, as a sorted value.
func told(t *testing.T, s string) api.Value {
	t.Helper()
	d := json.NewDecoder(strings.NewReader(s))
	d.UseNumber()
	var v any
	if err := d.Decode(&v); err != nil {
		t.Fatalf("JSON of %q: %v", s, err)
	}
	return tree.Sorted(valueOf(t, v))
}

func valueOf(t *testing.T, v any) (out api.Value) {
	t.Helper()
	switch v := v.(type) {
	case nil:
		return null
	case bool:
		return api.Value{Kind: api.Bool, Bool: v}
	case json.Number:
		n, err := v.Int64()
		if err != nil {
			t.Fatal(err)
		}
		return tree.Num(int(n))
	case string:
		return tree.Text(v)
	case []any:
		out.Kind = api.List
		for _, part := range v {
			out.List = append(out.List, valueOf(t, part))
		}
	case map[string]any:
		out.Kind = api.Object
		for key, part := range v {
			out.Keys = append(out.Keys, key)
			out.List = append(out.List, valueOf(t, part))
		}
	}
	return out
}

// ends answers all that may have to stand behind a beginning of so many signs, for it to be a whole text.
func ends(signs int) []string {
	closing := []string{""}
	for ahead := closing; signs > 0; signs-- {
		var next []string
		for _, s := range ahead {
			next = append(next, s+"]", s+"}")
		}
		closing = append(closing, next...)
		ahead = next
	}
	var out []string
	for _, s := range closing {
		for _, first := range []string{"", "1", ":1", `"x":1`} {
			out = append(out, first+s)
		}
	}
	return out
}

// begins tells whether s is the beginning of a whole text, as JSON has it.
func begins(s string, ends []string) bool {
	for _, end := range ends {
		if json.Valid([]byte(s + end)) {
			return true
		}
	}
	return false
}

// P4.2, P4.3: all texts of a few signs. What is a text is the value that JSON tells; of others the place is where the longest beginning ends that could still become one.
func TestAllShort(t *testing.T) {
	const most = 6
	signs := []string{"[", "]", "{", "}", ",", ":", `"a"`, `"b"`, "1", "null", " "}
	var behind [most + 1][]string
	for n := range behind {
		behind[n] = ends(n)
	}
	whole := 0
	var grow func(s string, n int)
	grow = func(s string, n int) {
		v, at, e := parse.Parse(s)
		switch {
		case json.Valid([]byte(s)):
			whole++
			if e != api.OK || at != 0 || !same(tree.Sorted(v), told(t, s)) || tree.Check(v) != api.OK {
				t.Fatalf("Parse(%q): %v, %d, %d", s, v, at, e)
			}
			rounds(t, v)
		case e != api.ErrJson || at != len(s) || !same(v, null):
			t.Fatalf("Parse(%q), which breaks off: %v, %d, %d", s, v, at, e)
		}
		if n == most {
			return
		}
		for _, sign := range signs {
			switch {
			case keyTwice(s, sign):
				refusesWith(t, s, sign, api.ErrTwice)
			case begins(s+sign, behind[n+1]):
				grow(s+sign, n+1)
			default:
				refusesWith(t, s, sign, api.ErrJson)
			}
		}
	}
	grow("", 0)
	if whole < 500 {
		t.Errorf("only %d texts were whole", whole)
	}
}

// keyTwice tells whether the sign, behind s, is a key again. (Texts of so few signs have room for this in the outermost object alone.)
func keyTwice(s, sign string) bool {
	s = strings.ReplaceAll(s, " ", "")
	return strings.HasPrefix(s, "{"+sign+":") && strings.HasSuffix(s, ",") && strings.Count(s, "[") == strings.Count(s, "]") && sign[0] == '"'
}

// refusesWith asks that s, which may yet become a text, can't with the sign behind it, whatever stands behind that.
func refusesWith(t *testing.T, s, sign string, e api.Errno) {
	t.Helper()
	for _, behind := range []string{"", " ", "]", "}", ":1", "\x00"} {
		if v, at, got := parse.Parse(s + sign + behind); got != e || at != len(s) || !same(v, null) {
			t.Fatalf("Parse(%q): %v, %d, %d", s+sign+behind, v, at, got)
		}
	}
}

// samples are texts that are whole, of all kinds.
func samples() []string {
	return []string{
		"null", " [ ] ", `{"a":[1,null]}`, `{"b":{"c":"\u0041\n","a":-5},"a":[true,false,{"":[]}]}`, "\t[\"\\ud83d\\ude00\", \"\u20ac\" ,\r\n-9007199254740992]\n",
		`{"Resources":{"A":{"Type":"Disk","Properties":{"Size":10}},"N":{"Type":"Node","DependsOn":["A"],"Properties":{"Disk":{"Ref":"A"}}}}}`,
		nested("[", 24, "", "]"), nested(`{"a":`, 23, "0", "}"),
	}
}

// P4.2, P4.3: texts that break off, or in which one byte is another one, or missing, or one too many.
func TestChanged(t *testing.T) {
	signs := "[]{},:\"\\ \n01-.enulltrfa\x00\xff/"
	for _, s := range samples() {
		if v, at, e := parse.Parse(s); e != api.OK || at != 0 || !same(tree.Sorted(v), told(t, s)) {
			t.Fatalf("Parse(%q): %v, %d, %d", s, v, at, e)
		}
		for i := range len(s) + 1 {
			hold(t, s[:i])
			hold(t, s[i:])
			for c := range len(signs) {
				hold(t, s[:i]+signs[c:c+1]+s[i:])
				if i < len(s) {
					hold(t, s[:i]+signs[c:c+1]+s[i+1:])
				}
			}
			if i < len(s) {
				hold(t, s[:i]+s[i+1:])
			}
		}
	}
}

// hold holds what Parse answers of s against what JSON says of it; and asks that nothing is wrong ahead of a fault's place (of a number: ahead of - 05's 5 stands one that may not be).
func hold(t *testing.T, s string) {
	t.Helper()
	v, at, e := parse.Parse(s)
	switch e {
	case api.OK:
		if at != 0 || !json.Valid([]byte(s)) || !same(tree.Sorted(v), told(t, s)) || tree.Check(v) != api.OK {
			t.Fatalf("Parse(%q): %v, %d", s, v, at)
		}
		rounds(t, v)
		return
	case api.ErrJson:
		if json.Valid([]byte(s)) {
			t.Fatalf("Parse(%q): %d, %d", s, at, e)
		}
	case api.ErrText, api.ErrNumber, api.ErrDeep, api.ErrTwice:
		// JSON lets more of these be.
	default:
		t.Fatalf("Parse(%q): %d, %d", s, at, e)
	}
	if at < 0 || at > len(s) || !same(v, null) {
		t.Fatalf("Parse(%q): %v, %d, %d", s, v, at, e)
	}
	if _, cut, early := parse.Parse(s[:at]); e != api.ErrNumber && early != api.OK && cut != at {
		t.Fatalf("Parse(%q) tells %d, but of what is ahead of it %d, %d", s, at, cut, early)
	}
}

// P4.4: blanks ahead and behind change nothing.
func TestBlanksAround(t *testing.T) {
	for _, s := range samples() {
		want, _, _ := parse.Parse(s)
		for _, blanks := range []string{" ", "\t", "\n", "\r", "\r\n\t ", strings.Repeat(" ", 500)} {
			for _, s := range []string{blanks + s, s + blanks, blanks + s + blanks} {
				if v, at, e := parse.Parse(s); e != api.OK || at != 0 || !same(v, want) {
					t.Errorf("Parse(%q): %v, %d, %d", s, v, at, e)
				}
			}
		}
	}
}
