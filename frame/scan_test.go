package frame_test

import (
	"slices"
	"testing"

	"hoarding/api"
	"hoarding/frame"
)

// texts answers loads as texts, which hold apart what may change.
func texts(loads [][]byte) []string {
	var list []string
	for _, load := range loads {
		list = append(list, string(load))
	}
	return list
}

// places answers where the frames of loads begin that stand one behind the other.
func places(loads []string) []int {
	var list []int
	at := 0
	for _, load := range loads {
		list = append(list, at)
		at += 4 + len(load)
	}
	return list
}

// scans asks whether b's frames are those of loads, of Scan and of All, gone over twice; what is left is torn.
func scans(t *testing.T, b string, loads ...string) {
	t.Helper()
	got, torn := frame.Scan([]byte(b))
	left := len(b)
	for _, load := range loads {
		left -= 4 + len(load)
	}
	if !slices.Equal(texts(got), loads) || torn != left {
		t.Errorf("Scan of %.40q (%d bytes): %.80q, %d torn; not %.80q, %d", b, len(b), texts(got), torn, loads, left)
	}
	all := frame.All([]byte(b))
	for range 2 {
		var ats []int
		var list []string
		for at, load := range all {
			ats, list = append(ats, at), append(list, string(load))
		}
		if !slices.Equal(list, loads) || !slices.Equal(ats, places(loads)) {
			t.Errorf("All of %.40q (%d bytes): %.80q at %v; not %.80q at %v", b, len(b), list, ats, loads, places(loads))
		}
	}
}

// P7.2: bytes with no frame at their beginning: all are torn.
func TestNoFrame(t *testing.T) {
	lengths := []string{
		"\x00\x00\x00\x00", // of no load
		"\x00\x08\x00\x01", // above MaxRecord
		"\x00\x08\x00\x02", "\x00\x09\x00\x00", "\x00\x0f\xff\xff", "\x00\x10\x00\x00", "\x00\xff\x00\x01",
		"\x01\x00\x00\x00", "\x01\x00\x00\x01", "\x7f\xff\xff\xff", // with a highest byte
		"\x80\x00\x00\x00", "\x80\x00\x00\x01", "\xff\x00\x00\x01",
		"\xff\xff\xff\xfb", "\xff\xff\xff\xfc", "\xff\xff\xff\xfd", "\xff\xff\xff\xfe", "\xff\xff\xff\xff",
		"abcd", "\r\n\x00\x01",
	}
	for _, length := range lengths {
		for end := range 5 {
			scans(t, length[:end])
		}
		scans(t, length+"A")
		scans(t, length+row(t, "A", "B"))
		scans(t, length+many(300))
		scans(t, row(t, "A", "BC")+length+row(t, "D"), "A", "BC")
	}
	scans(t, "")
	scans(t, "\x00")
	scans(t, "\x00\x00")
	scans(t, "\x00\x00\x00")
	scans(t, "\x00\x00\x00\x01")
	scans(t, "\x00\x00\x00\x02A")
	scans(t, "\x00\x00\x01\x00"+many(255))
	scans(t, "A")
	scans(t, many(1 << 16)[1:])
}

// P7.2: a length that is no load's, though as many bytes stand there.
func TestLengthTooGreat(t *testing.T) {
	long := many(1<<24 + 16)
	for _, x := range []struct {
		length string
		n      int
	}{
		{"\x00\x08\x00\x01", api.MaxRecord + 1},
		{"\x00\x08\x00\x02", api.MaxRecord + 2},
		{"\x00\x09\x00\x01", 0x90001},
		{"\x00\x10\x00\x00", 0x100000},
		{"\x01\x00\x00\x00", 1 << 24},
		{"\x01\x00\x00\x01", 1<<24 + 1},
	} {
		for _, n := range []int{x.n - 1, x.n, x.n + 1, x.n + 8} {
			scans(t, x.length+long[:n])
		}
		scans(t, row(t, "ahead")+x.length+long[:x.n]+row(t, "behind"), "ahead")
	}
}

// P7.2: the loads, and where their frames begin.
func TestScan(t *testing.T) {
	for _, loads := range [][]string{
		{"A"},
		{"\x00"},
		{"A", "A"},
		{"A", "BC", "DEF", "G"},
		{"\x00\x00\x00\x01", "\x00\x00\x00\x00", "\xff\xff\xff\xff"},
		{"\x00\x00\x00\x01A", row(t, "in", "it")},
		{many(127), many(128), many(255), many(256), many(257), "end"},
		{many(0x12345), "x", many(0xffff), many(0x10000)},
		{many(api.MaxRecord), "x", many(api.MaxRecord), many(api.MaxRecord - 1)},
	} {
		scans(t, row(t, loads...), loads...)
		scans(t, row(t, loads...)+"\x00", loads...)
		scans(t, row(t, loads...)+"\x00\x00\x00\x09torn", loads...)
	}
	var loads []string
	for i := range 1000 {
		loads = append(loads, many(i%5+1))
	}
	scans(t, row(t, loads...), loads...)
}

// P7.2: a frame that lacks its last byte is none; what would be its last byte then is not taken from what stands behind.
func TestLastByte(t *testing.T) {
	for _, n := range []int{1, 2, 3, 4, 5, 255, 256, 257, 0xffff, 0x10000, api.MaxRecord - 1, api.MaxRecord} {
		whole := framed(t, many(n))
		scans(t, whole, many(n))
		scans(t, whole[:len(whole)-1])
		scans(t, row(t, "A")+whole[:len(whole)-1], "A")
		scans(t, row(t, "A")+whole+"\x00", "A", many(n))
	}
}

// P7.2: frames that are whole, but stand behind one that is not, are torn with it.
func TestBehindTorn(t *testing.T) {
	for _, torn := range []string{
		"\x00\x00\x00\x00",
		"\x00\x08\x00\x01",
		"\x80\x00\x00\x01A",
		"\x00\x07\x00\x00A",
		"A", "\x00", "\x01", "\x00\x00\x01",
	} {
		scans(t, torn+row(t, "A", "BC"))
		scans(t, row(t, "x")+torn+row(t, "A", "BC"), "x")
		scans(t, row(t, "x", "yz")+torn+row(t, many(99), "BC"), "x", "yz")
	}
	scans(t, row(t, "x")+"\x00\x00\x00\x00"+row(t, "y")+"\x00\x00\x00\x00"+row(t, "z"), "x")
}

// fit answers how many of the loads are whole in the first end bytes of their frames.
func fit(loads []string, end int) int {
	n := 0
	for _, load := range loads {
		if end -= 4 + len(load); end < 0 {
			break
		}
		n++
	}
	return n
}

// P7.3: frames one behind the other, cut at every place.
func TestCutEverywhere(t *testing.T) {
	for _, loads := range [][]string{
		{"A"},
		{"A", "BC", "DEF", "G"},
		{"\x00\x00\x00\x01", "\x00", "\x00\x00\x00\x00\x00\x00\x00\x01A"},
		{many(254), many(255), many(256), many(257)},
		{row(t, "in", "it"), row(t, row(t, "deep")), "\xff"},
	} {
		b := row(t, loads...)
		for end := range len(b) + 1 {
			scans(t, b[:end], loads[:fit(loads, end)]...)
		}
	}
}

// P7.3: the longest loads, cut about the places where frames begin and loads do.
func TestCutLongest(t *testing.T) {
	loads := []string{many(api.MaxRecord), "A", many(api.MaxRecord - 1), "B"}
	b := row(t, loads...)
	for _, at := range append(places(loads), len(b)) {
		for end := max(at-6, 0); end <= min(at+6, len(b)); end++ {
			scans(t, b[:end], loads[:fit(loads, end)]...)
		}
	}
}

// The chapter's example.
func TestExample(t *testing.T) {
	b, e := frame.Frame([]byte{65})
	if e != api.OK || !slices.Equal(b, []byte{0, 0, 0, 1, 65}) {
		t.Errorf("%v, %d", b, e)
	}
	scans(t, string(b), "A")
}
