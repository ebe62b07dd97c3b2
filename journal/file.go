package journal

import (
	"slices"

	"hoarding/api"
	"hoarding/disk"
	"hoarding/frame"
)

func there(d *disk.Disk) api.Errno {
	if d == nil {
		return api.ErrNil
	}
	return api.OK
}

// sound answers frame's error of the first row that has one.
func sound(rows [][]byte) api.Errno {
	for _, row := range behind(rows, 0) {
		// Only what is refused is framed here: that is not copied.
		if frame.Size(len(row)) == 0 {
			_, e := frame.Frame(row)
			return e
		}
	}
	return api.OK
}

// fit answers ErrLong, if a file has no room for the frames of rows.
func fit(rows [][]byte) api.Errno {
	room := api.MaxFile
	for _, row := range behind(rows, 0) {
		if room -= frame.Size(len(row)); room < 0 {
			return api.ErrLong
		}
	}
	return api.OK
}

// framed answers the frames of rows that are sound, one behind the other.
func framed(rows [][]byte) []byte {
	frames := make([][]byte, 0, len(rows))
	for _, row := range behind(rows, 0) {
		one, _ := frame.Frame(row)
		frames = append(frames, one)
	}
	return slices.Concat(frames...)
}

// head is how many bytes tell the length of a frame's load.
const head = 4

// broken answers how many bytes at the file's end a torn Append left: those of a frame that breaks off. Bytes that begin no frame are left by none: 0.
// Here lengths alone are looked at, since each Append does so: frame.Scan would copy all loads.
func broken(file []byte) int {
	for len(file) >= head {
		size := frame.Size(length(file))
		switch {
		case size == 0:
			return 0
		case size > len(file):
			return len(file)
		}
		file = file[size:]
	}
	return len(file)
}

// length reads the number that stands in the first bytes of b.
func length(b []byte) int {
	return int(b[0])<<24 | int(b[1])<<16 | int(b[2])<<8 | int(b[3])
}
