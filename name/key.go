package name

import (
	"strings"

	"flint/api"
)

// keyTail is how many bytes of a key stand behind its text: a nought, and a number.
const keyTail = 1 + 8

// Fold tells s, with its runes A to Z made small.
func Fold(s string) string {
	b := []byte(s)
	for i, r := range s {
		if r >= 'A' && r <= 'Z' {
			b[i] += 'a' - 'A'
		}
	}
	return string(b)
}

// Key tells s and n as a key. The number's highest byte is first, so that keys are ordered as numbers are.
func Key(s string, n uint64) string {
	k := make([]byte, 0, len(s)+keyTail)
	k = append(k, s...)
	k = append(k, 0)
	for shift := 56; shift >= 0; shift -= 8 {
		k = append(k, byte(n>>shift))
	}
	return string(k)
}

// ReadKey tells the text and the number that k is the Key of.
func ReadKey(k string) (string, uint64, api.Errno) {
	end := len(k) - keyTail
	if end < 0 || k[end] != 0 {
		return "", 0, api.ErrForm
	}
	n := uint64(0)
	for i := end + 1; i < len(k); i++ {
		n = n<<8 | uint64(k[i])
	}
	return strings.Clone(k[:end]), n, api.OK
}
