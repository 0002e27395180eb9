// Package frame: checksums, numbers, pages, records. See doc/01-frame.md.
package frame

// put writes v over all of b, the lowest byte first.
func put(b []byte, v uint64) {
	for i := range b {
		b[i] = byte(v)
		v >>= 8
	}
}

// get reads all of b, at most eight bytes, the lowest first.
func get(b []byte) uint64 {
	v := uint64(0)
	for i, x := range b {
		v |= uint64(x) << (8 * i)
	}
	return v
}
