package name

import (
	"strconv"
	"unicode/utf8"

	"flint/api"
)

// Quote tells s between quotation marks, with a \ ahead of what could be mistaken or not be read.
func Quote(s string) string {
	q := []byte{'"'}
	for i, r := range s {
		switch {
		case r == '"' || r == '\\':
			q = append(q, '\\', byte(r))
		case r < ' ' || r == 0x7F || torn(s[i:], r):
			q = addHex(q, s[i])
		default:
			q = utf8.AppendRune(q, r)
		}
	}
	return string(append(q, '"'))
}

// addHex writes \x and the two digits of x behind q.
func addHex(q []byte, x byte) []byte {
	const digits = "0123456789abcdef"
	return append(q, '\\', 'x', digits[x>>4], digits[x&15])
}

// Unquote tells the text whose Quote s is.
func Unquote(s string) (string, api.Errno) {
	if len(s) < 2 {
		return "", api.ErrForm
	}
	t := unescape(s[1 : len(s)-1])
	// A text has one Quote alone: what is written in any other way is none's.
	if Quote(t) != s {
		return "", api.ErrForm
	}
	return t, api.OK
}

// unescape tells the text that stands between the marks of its Quote; of what is no text's Quote it tells some text.
func unescape(s string) string {
	t := make([]byte, 0, len(s))
	for len(s) > 0 {
		x, n := unescapeByte(s)
		t = append(t, x)
		s = s[n:]
	}
	return string(t)
}

// unescapeByte tells the byte that the front of s stands for, and how many bytes of s do so.
func unescapeByte(s string) (byte, int) {
	if s[0] != '\\' || len(s) < 2 {
		return s[0], 1
	}
	if s[1] != 'x' || len(s) < 4 {
		return s[1], 2
	}
	x, err := strconv.ParseUint(s[2:4], 16, 8)
	if err != nil {
		return s[1], 2
	}
	return byte(x), 4
}
