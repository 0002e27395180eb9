package frame

import (
	"bytes"

	"flint/api"
)

// mostNumber is how many bytes a number has at most: 64 bits by sevens.
const mostNumber = 10

// Number tells b, and v behind it.
func Number(b []byte, v uint64) []byte {
	out := make([]byte, 0, len(b)+mostNumber)
	return addNumber(append(out, b...), v)
}

// addNumber writes v into b's spare room, which Number, for its callers' sake, may not.
func addNumber(b []byte, v uint64) []byte {
	for v >= 0x80 {
		b = append(b, byte(v)|0x80)
		v >>= 7
	}
	return append(b, byte(v))
}

// ReadNumber tells the number at the front of b, and how many bytes it has.
func ReadNumber(b []byte) (uint64, int, api.Errno) {
	v := uint64(0)
	for i, x := range b[:min(len(b), mostNumber)] {
		v |= uint64(x&0x7F) << (7 * i)
		if x >= 0x80 {
			continue
		}
		above := i == mostNumber-1 && x > 1
		if above || i > 0 && x == 0 {
			return 0, 0, api.ErrCanon
		}
		return v, i + 1, api.OK
	}
	if len(b) < mostNumber {
		return 0, 0, api.ErrShort
	}
	return 0, 0, api.ErrCanon
}

// Bytes tells b, and behind it how many bytes the parts have, and the parts.
func Bytes(b []byte, parts ...[]byte) []byte {
	n := 0
	for _, p := range parts {
		n += len(p)
	}
	out := make([]byte, 0, len(b)+mostNumber+n)
	out = addNumber(append(out, b...), uint64(n))
	for _, p := range parts {
		out = append(out, p...)
	}
	return out
}

// ReadBytes tells the bytes at the front of b that Bytes wrote, if they are at most most, and how many bytes of b that takes.
func ReadBytes(b []byte, most int) ([]byte, int, api.Errno) {
	v, n, e := ReadNumber(b)
	if e != api.OK {
		return nil, 0, e
	}
	if v > uint64(max(most, 0)) {
		return nil, 0, api.ErrLong
	}
	if v > uint64(len(b)-n) {
		return nil, 0, api.ErrShort
	}
	end := n + int(v)
	return bytes.Clone(b[n:end]), end, api.OK
}
