package number

import (
	"strings"

	"hoarding/api"
)

// Read answers the number whose text s is; ErrNumber, unless s is just that.
func Read(s string) (int, api.Errno) {
	n, end, e := Scan(s, 0)
	if e != api.OK || end != len(s) {
		return 0, api.ErrNumber
	}
	return n, api.OK
}

// Scan reads the number that stands in s from at on, and tells where it goes on; beside ErrNumber end is the place of what can't stand there, or at, where the number itself may not be.
func Scan(s string, at int) (n, end int, e api.Errno) {
	if at < 0 || at > len(s) {
		return 0, 0, api.ErrArg
	}
	minus := strings.HasPrefix(s[at:], "-")
	first := at
	if minus {
		first++
	}
	end = first
	for end < len(s) && Digit(s[end]) {
		end++
	}
	if place, wrong := misplaced(s, first, end); wrong {
		return 0, place, api.ErrNumber
	}
	n, fits := worth(s[first:end])
	switch {
	case !fits, minus && n == 0:
		return 0, at, api.ErrNumber
	case minus:
		return -n, end, api.OK
	}
	return n, end, api.OK
}

// misplaced answers the place of the first byte that can't stand with the digits of s from first to end.
func misplaced(s string, first, end int) (place int, wrong bool) {
	switch {
	case first == end:
		return first, true
	case s[first] == '0' && end-first > 1:
		return first + 1, true
	case end < len(s) && strings.IndexByte(".eE", s[end]) >= 0:
		return end, true
	}
	return 0, false
}

// worth answers the number that the digits tell, if it may be.
func worth(digits string) (n int, fits bool) {
	for i := range len(digits) {
		d := int(digits[i] - '0')
		// Asked ahead of the step: behind it the number may have wrapped round.
		if n > (api.MaxNumber-d)/10 {
			return 0, false
		}
		n = n*10 + d
	}
	return n, true
}
