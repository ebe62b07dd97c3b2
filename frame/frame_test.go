package frame_test

import (
	"bytes"
	"math"
	"strings"
	"testing"

	"hoarding/api"
	"hoarding/frame"
)

// many answers n bytes, none like the one ahead of it.
func many(n int) string {
	b := make([]byte, n)
	for i := range b {
		b[i] = byte(i*7 + i>>8)
	}
	return string(b)
}

// framed answers the frame of a load that may be one.
func framed(t *testing.T, load string) string {
	t.Helper()
	b, e := frame.Frame([]byte(load))
	if e != api.OK {
		t.Fatalf("Frame of %d bytes: %d", len(load), e)
	}
	return string(b)
}

// row answers the frames of loads, one behind the other.
func row(t *testing.T, loads ...string) string {
	t.Helper()
	var b strings.Builder
	for _, load := range loads {
		b.WriteString(framed(t, load))
	}
	return b.String()
}

// P7.1: frames, byte by byte.
func TestFrame(t *testing.T) {
	for _, x := range []struct{ load, want string }{
		{"A", "\x00\x00\x00\x01A"},
		{"\x00", "\x00\x00\x00\x01\x00"},
		{"\xff", "\x00\x00\x00\x01\xff"},
		{"ab", "\x00\x00\x00\x02ab"},
		{"\x00\x00\x00\x01A", "\x00\x00\x00\x05\x00\x00\x00\x01A"},
		{many(127), "\x00\x00\x00\x7f" + many(127)},
		{many(128), "\x00\x00\x00\x80" + many(128)},
		{many(255), "\x00\x00\x00\xff" + many(255)},
		{many(256), "\x00\x00\x01\x00" + many(256)},
		{many(257), "\x00\x00\x01\x01" + many(257)},
		{many(0x1234), "\x00\x00\x12\x34" + many(0x1234)},
		{many(0xffff), "\x00\x00\xff\xff" + many(0xffff)},
		{many(0x10000), "\x00\x01\x00\x00" + many(0x10000)},
		{many(0x56789), "\x00\x05\x67\x89" + many(0x56789)},
		{many(api.MaxRecord - 1), "\x00\x07\xff\xff" + many(api.MaxRecord-1)},
		{many(api.MaxRecord), "\x00\x08\x00\x00" + many(api.MaxRecord)},
	} {
		if b := framed(t, x.load); b != x.want {
			t.Errorf("Frame of %d bytes: %.20q (%d bytes), not %.20q", len(x.load), b, len(b), x.want)
		}
		if n := frame.Size(len(x.load)); n != len(x.want) {
			t.Errorf("Size(%d): %d, not %d", len(x.load), n, len(x.want))
		}
	}
}

// P7.1: what is no load has no frame.
func TestFrameRefused(t *testing.T) {
	for _, x := range []struct {
		load []byte
		want api.Errno
	}{
		{nil, api.ErrArg},
		{[]byte{}, api.ErrArg},
		{make([]byte, 0, 8), api.ErrArg},
		{make([]byte, api.MaxRecord+1), api.ErrLong},
		{make([]byte, api.MaxRecord+2), api.ErrLong},
		{make([]byte, 2*api.MaxRecord), api.ErrLong},
		{make([]byte, 1<<24), api.ErrLong},
		{make([]byte, 1<<24+1), api.ErrLong},
	} {
		if b, e := frame.Frame(x.load); len(b) != 0 || e != x.want {
			t.Errorf("Frame of %d bytes: %d bytes, %d; not %d", len(x.load), len(b), e, x.want)
		}
	}
}

// P7.1: what a frame has of bytes.
func TestSize(t *testing.T) {
	for n := 1; n <= api.MaxRecord; n++ {
		if got := frame.Size(n); got != n+4 {
			t.Fatalf("Size(%d): %d", n, got)
		}
	}
	for _, n := range []int{
		0, -1, -2, -3, -4, -5, -api.MaxRecord, math.MinInt32, math.MinInt, math.MinInt + 3,
		api.MaxRecord + 1, api.MaxRecord + 4, 2 * api.MaxRecord, 1 << 24, math.MaxInt32, math.MaxInt - 4, math.MaxInt - 3, math.MaxInt,
	} {
		if got := frame.Size(n); got != 0 {
			t.Errorf("Size(%d): %d, not 0", n, got)
		}
	}
}

// R4: a load that is handed in is neither kept nor changed, nor is what stands behind it; frames share no memory.
func TestFrameMemory(t *testing.T) {
	in := []byte("loadroom")
	one, e := frame.Frame(in[:4])
	two, f := frame.Frame(in[:4])
	if e != api.OK || f != api.OK {
		t.Fatal(e, f)
	}
	_ = append(one, "more"...)
	if string(in) != "loadroom" {
		t.Errorf("what was handed in is %q", in)
	}
	spoil(in)
	if string(one) != "\x00\x00\x00\x04load" {
		t.Errorf("the frame is %q", one)
	}
	spoil(one)
	if string(two) != "\x00\x00\x00\x04load" {
		t.Errorf("the other frame is %q", two)
	}
	if !bytes.Equal(in, []byte("########")) {
		t.Errorf("what was handed in is %q", in)
	}
}
