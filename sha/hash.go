package sha

import (
	"strings"

	"flint/api"
)

const digits = "0123456789abcdef"

// String tells the hash by digits, two a byte.
func (h Hash) String() string {
	var s [2 * len(h)]byte
	for i, x := range h {
		s[2*i], s[2*i+1] = digits[x>>4], digits[x&15]
	}
	return string(s[:])
}

// Parse tells the hash of which s is the String.
func Parse(s string) (Hash, api.Errno) {
	var h Hash
	if len(s) != 2*len(h) {
		return Hash{}, api.ErrForm
	}
	for i := range len(s) {
		x := strings.IndexByte(digits, s[i])
		if x < 0 {
			return Hash{}, api.ErrForm
		}
		h[i/2] = h[i/2]<<4 | byte(x)
	}
	return h, api.OK
}

// Compare tells -1, 0, 1, as a is below b, is b, or is above it, byte by byte.
func Compare(a, b Hash) int {
	if a == b {
		return 0
	}
	i := 0
	for a[i] == b[i] { // it ends, since they are unlike
		i++
	}
	if a[i] < b[i] {
		return -1
	}
	return 1
}
