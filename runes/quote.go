package runes

import (
	"strconv"
	"strings"
	"unicode/utf8"

	"hoarding/api"
)

const (
	hexDigits = "0123456789abcdef"
	unitLen   = 6 // bytes of \u and its four digits
)

// What a joiner answers where there is no rune.
const (
	half  = -1 // a second half must follow
	wrong = -2
)

// letters has the letter behind the \ of each rune that is written by a short escape.
func letters() map[int]byte {
	return map[int]byte{'"': '"', '\\': '\\', 8: 'b', 9: 't', 10: 'n', 12: 'f', 13: 'r'}
}

// meanings has the rune that each letter behind a \ stands for; \/ is read, but never written.
func meanings() map[byte]int {
	m := map[byte]int{'/': '/'}
	for r, c := range letters() {
		m[c] = r
	}
	return m
}

// Quote answers the text s as it is written; ErrText, if it is none.
func Quote(s string) (string, api.Errno) {
	if !Valid(s) {
		return "", api.ErrText
	}
	var b strings.Builder
	short := letters()
	b.WriteByte('"')
	for _, r := range All(s) {
		c, ok := short[r]
		switch {
		case ok:
			b.WriteByte('\\')
			b.WriteByte(c)
		case r < 32:
			b.WriteString(`\u00`)
			b.WriteByte(hexDigits[r>>4])
			b.WriteByte(hexDigits[r&15])
		default:
			b.WriteRune(rune(r))
		}
	}
	b.WriteByte('"')
	return b.String(), api.OK
}

// Unquote reads the text that is written in b from at on, and tells where it goes on; beside ErrText end is the place of what can't stand there.
func Unquote(b string, at int) (s string, end int, e api.Errno) {
	if at < 0 || at > len(b) {
		return "", 0, api.ErrArg
	}
	if at == len(b) || b[at] != '"' {
		return "", at, api.ErrText
	}
	var text strings.Builder
	short := meanings()
	next := at + 1 // what is ahead of it has been read
	for i, r := range All(b[at+1:]) {
		place := at + 1 + i
		if place < next {
			continue
		}
		switch {
		case r == '"':
			return text.String(), place + 1, api.OK
		case r < 32:
			return "", place, api.ErrText
		case r == '\\':
			if r, next = escape(b, place, short); next == 0 {
				return "", place, api.ErrText
			}
		default:
			next = place + utf8.RuneLen(rune(r))
		}
		text.WriteRune(rune(r))
	}
	// Either b is at its end, or a rune that is none stands here.
	return "", next, api.ErrText
}

// escape reads the escape whose \ stands at at, and tells where it goes on; end 0: it is none.
func escape(b string, at int, short map[byte]int) (r, end int) {
	if at+1 == len(b) {
		return 0, 0
	}
	if b[at+1] == 'u' {
		return long(b, at)
	}
	r, ok := short[b[at+1]]
	if !ok {
		return 0, 0
	}
	return r, at + 2
}

// long reads a rune's \u, or its two, from at on, and tells where it goes on; end 0: there is no rune.
func long(b string, at int) (r, end int) {
	join := joiner()
	for r = half; r == half; at += unitLen {
		u, ok := unit(b, at)
		if !ok {
			return 0, 0
		}
		r = join(u)
	}
	if r == wrong {
		return 0, 0
	}
	return r, at
}

// unit reads \u and four hexadecimal digits at at.
func unit(b string, at int) (int, bool) {
	if len(b)-at < unitLen || b[at] != '\\' || b[at+1] != 'u' {
		return 0, false
	}
	// ParseUint takes neither a sign nor, where the base is told, any prefix.
	n, err := strconv.ParseUint(b[at+2:at+unitLen], 16, 16)
	return int(n), err == nil
}

// joiner answers a function that takes the numbers of \u, one behind the other, and answers their rune; half, wrong: there is none (yet).
func joiner() func(int) int {
	first := 0
	return func(u int) int {
		isFirst, isSecond := 0xD800 <= u && u <= 0xDBFF, 0xDC00 <= u && u <= 0xDFFF
		switch {
		case first != 0 && isSecond:
			return 0x10000 + (first-0xD800)<<10 + (u - 0xDC00)
		case first != 0 || isSecond:
			return wrong
		case isFirst:
			first = u
			return half
		}
		return u
	}
}
