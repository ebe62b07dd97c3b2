package frame_test

import (
	"encoding/binary"
	"slices"
	"strings"
	"testing"

	"hoarding/api"
	"hoarding/frame"
)

// read is the chapter's words on b, read once more: its loads, and what is torn.
func read(b string) (loads []string, torn string) {
	if len(b) < 4 {
		return nil, b
	}
	n := binary.BigEndian.Uint32([]byte(b))
	if n < 1 || n > api.MaxRecord || uint64(len(b)) < 4+uint64(n) {
		return nil, b
	}
	loads, torn = read(b[4+n:])
	return append([]string{b[4 : 4+n]}, loads...), torn
}

// agrees asks whether Scan and All tell of b what the chapter does.
func agrees(t *testing.T, b string) {
	t.Helper()
	want, left := read(b)
	got, torn := frame.Scan([]byte(b))
	if !slices.Equal(texts(got), want) || torn != len(left) {
		t.Fatalf("Scan of %q: %q, %d; not %q, %d", b, texts(got), torn, want, len(left))
	}
	ats := places(want)
	i := 0
	for at, load := range frame.All([]byte(b)) {
		if i == len(want) || at != ats[i] || string(load) != want[i] {
			t.Fatalf("All of %q: %q at %d, behind %d; not %q at %v", b, load, at, i, want, ats)
		}
		i++
	}
	if i != len(want) {
		t.Fatalf("All of %q: %d loads, not %d", b, i, len(want))
	}
}

// each calls f with all lists of n of the parts.
func each(parts []string, n int, f func([]string)) {
	var grow func([]string)
	grow = func(list []string) {
		if len(list) == n {
			f(list)
			return
		}
		for _, part := range parts {
			grow(append(list[:len(list):len(list)], part))
		}
	}
	grow(nil)
}

// P7.2: all rows of up to nine of a few bytes, and of up to six lengths and pieces of loads.
func TestAllBytes(t *testing.T) {
	for n := range 10 {
		each([]string{"\x00", "\x01", "\x04"}, n, func(list []string) { agrees(t, strings.Join(list, "")) })
	}
	for n := range 7 {
		each([]string{
			"\x00\x00\x00\x01", "\x00\x00\x00\x02", "\x00\x00\x00\x05", "\x00\x00\x00\x00", "\x80\x00\x00\x01", "\x00", "A", "BC",
		}, n, func(list []string) { agrees(t, strings.Join(list, "")) })
	}
}

// P7.3: rows of up to four loads of few bytes, some of which look like lengths, cut at every place.
func TestAllRows(t *testing.T) {
	parts := []string{"\x00", "A", "\x00\x01", "\x00\x00\x00\x01", "\x00\x00\x00\x01A"}
	for n := range 5 {
		each(parts, n, func(loads []string) {
			b := row(t, loads...)
			for end := range len(b) + 1 {
				whole := loads[:fit(loads, end)]
				got, torn := frame.Scan([]byte(b[:end]))
				if !slices.Equal(texts(got), whole) || torn != end-len(row(t, whole...)) {
					t.Fatalf("%q, cut at %d: %q, %d torn", loads, end, texts(got), torn)
				}
				agrees(t, b[:end])
			}
		})
	}
}

// P7.1, P7.3: a load of each length up to 2000, and of some about the powers of two, there and back.
func TestRoundabout(t *testing.T) {
	lengths := []int{api.MaxRecord - 1, api.MaxRecord}
	for n := 1; n <= 2000; n++ {
		lengths = append(lengths, n)
	}
	for p := 2048; p < api.MaxRecord; p *= 2 {
		lengths = append(lengths, p-1, p, p+1)
	}
	for _, n := range lengths {
		load := strings.Repeat("x", n)
		scans(t, framed(t, load), load)
		scans(t, framed(t, load)+framed(t, "y"), load, "y")
	}
}
