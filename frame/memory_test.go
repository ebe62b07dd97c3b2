package frame_test

import (
	"slices"
	"testing"

	"hoarding/frame"
)

// spoil changes all that b has, and the room behind it.
func spoil(b []byte) {
	b = b[:cap(b)]
	for i := range b {
		b[i] = '#'
	}
}

// gone goes over all of it, and answers the loads that it tells.
func gone(all func(func(int, []byte) bool)) [][]byte {
	var loads [][]byte
	all(func(_ int, load []byte) bool {
		loads = append(loads, load)
		return true
	})
	return loads
}

// ways are the two that tell loads.
func ways() map[string]func([]byte) [][]byte {
	return map[string]func([]byte) [][]byte{
		"Scan": func(b []byte) [][]byte {
			loads, _ := frame.Scan(b)
			return loads
		},
		"All": func(b []byte) [][]byte { return gone(frame.All(b)) },
	}
}

// P7.2, R4: to a load one can append, and change it and the room behind it, without anything else changing.
func TestLoadsApart(t *testing.T) {
	want := []string{"A", "BCD", "EF", "G"}
	deeds := map[string]func([]byte){
		"append one byte": func(b []byte) { _ = append(b, '#') },
		"append many":     func(b []byte) { _ = append(b, many(99)...) },
		"spoil":           spoil,
		"append behind spoiling": func(b []byte) {
			spoil(b)
			b = append(b, "####"...)
			spoil(b)
		},
	}
	for name, way := range ways() {
		for what, deed := range deeds {
			for i := range want {
				in := []byte(row(t, want...) + "torn")
				before := string(in)
				one, two := way(in), way(in)
				kept := string(one[i])
				deed(one[i])
				one[i] = []byte(kept)
				if !slices.Equal(texts(one), want) || !slices.Equal(texts(two), want) || string(in) != before {
					t.Errorf("%s, %s of load %d: %q, %q, from %q", name, what, i, texts(one), texts(two), in)
				}
			}
		}
	}
}

// R4: what is handed in is neither kept nor changed, nor is what stands behind it.
func TestHandedIn(t *testing.T) {
	want := []string{"A", "BCD"}
	for name, way := range ways() {
		whole := row(t, "A", "BCD", "EF")
		in := []byte(whole)
		// The last frame stands in the spare room: it is not of what is handed in.
		loads := way(in[:len(row(t, want...))])
		if !slices.Equal(texts(loads), want) || string(in) != whole {
			t.Errorf("%s: %q, from %q", name, texts(loads), in)
		}
		spoil(in)
		if !slices.Equal(texts(loads), want) {
			t.Errorf("%s: %q, once what was handed in is changed", name, texts(loads))
		}
	}
}

// R4: All tells what there was when it was called, each time it is gone over.
func TestAllWas(t *testing.T) {
	want := []string{"A", "BCD", "EF"}
	in := []byte(row(t, want...) + "\x00\x00\x00\x01")
	all := frame.All(in)
	spoil(in)
	if got := texts(gone(all)); !slices.Equal(got, want) {
		t.Errorf("%q, once what was handed in is changed", got)
	}
	copy(in, row(t, "other", "loads"))
	for range 3 {
		loads := gone(all)
		if !slices.Equal(texts(loads), want) {
			t.Errorf("%q, once the loads told ahead are changed", texts(loads))
		}
		for _, load := range loads {
			spoil(load)
			spoil(append(load, "##"...))
		}
	}
	if string(in[:9]) != "\x00\x00\x00\x05other" {
		t.Errorf("what was handed in is %q", in)
	}
}

// R4: what is done to bytes and loads while All goes over them does not change what it tells.
func TestAllMidway(t *testing.T) {
	want := []string{"A", "BCD", "EF", "G"}
	in := []byte(row(t, want...))
	var list []string
	for _, load := range frame.All(in) {
		list = append(list, string(load))
		spoil(in)
		spoil(append(load, "####"...))
		spoil(load)
	}
	if !slices.Equal(list, want) {
		t.Errorf("%q, not %q", list, want)
	}
}

// R4: All is left behind each of its loads, and gone over again from the beginning.
func TestAllLeft(t *testing.T) {
	want := []string{"A", "BCD", "EF", "G"}
	all := frame.All([]byte(row(t, want...) + "\x00\x00"))
	for n := range len(want) {
		var list []string
		var ats []int
		for at, load := range all {
			list, ats = append(list, string(load)), append(ats, at)
			if len(list) == n+1 {
				break
			}
		}
		if !slices.Equal(list, want[:n+1]) || !slices.Equal(ats, places(want)[:n+1]) {
			t.Errorf("left behind %d: %q at %v", n+1, list, ats)
		}
		calls := 0
		all(func(int, []byte) bool {
			calls++
			return calls <= n
		})
		if calls != n+1 {
			t.Errorf("told %d more, once left", calls-n-1)
		}
		if got := texts(gone(all)); !slices.Equal(got, want) {
			t.Errorf("again: %q", got)
		}
	}
}

// R4: All is gone over while it is gone over; each goes its own way.
func TestAllInAll(t *testing.T) {
	want := []string{"A", "BCD", "EF"}
	all := frame.All([]byte(row(t, want...)))
	var pairs []string
	for _, outer := range all {
		for _, inner := range all {
			pairs = append(pairs, string(outer)+string(inner))
			spoil(inner)
		}
	}
	if !slices.Equal(pairs, []string{"AA", "ABCD", "AEF", "BCDA", "BCDBCD", "BCDEF", "EFA", "EFBCD", "EFEF"}) {
		t.Errorf("%q", pairs)
	}
}
