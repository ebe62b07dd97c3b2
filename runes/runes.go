// Package runes is layer 1: texts, and how they are written between quotes.
package runes

import (
	"iter"
	"unicode/utf8"

	"hoarding/api"
)

// Valid tells whether s is a text.
func Valid(s string) bool {
	return utf8.ValidString(s)
}

// Name tells whether s is a name.
func Name(s string) bool {
	if len(s) < 1 || len(s) > api.MaxName || !letter(s[0]) {
		return false
	}
	for i := range len(s) {
		if !letter(s[i]) && !digit(s[i]) {
			return false
		}
	}
	return true
}

func letter(c byte) bool {
	return 'a' <= c && c <= 'z' || 'A' <= c && c <= 'Z'
}

func digit(c byte) bool {
	return '0' <= c && c <= '9'
}

// Count tells how many runes the text s has; 0, if it is none.
func Count(s string) int {
	if !Valid(s) {
		return 0
	}
	n := 0
	for range All(s) {
		n++
	}
	return n
}

// All goes over the places and the runes of s, up to where it is no text.
func All(s string) iter.Seq2[int, int] {
	return func(yield func(int, int) bool) {
		for at := 0; at < len(s); {
			r, size := utf8.DecodeRuneInString(s[at:])
			// RuneError is a rune of its own too, three bytes long.
			if r == utf8.RuneError && size == 1 {
				return
			}
			if !yield(at, int(r)) {
				return
			}
			at += size
		}
	}
}
