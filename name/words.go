package name

import "strings"

// Words tells s parted at its blanks, but not at those between quotation marks that begin a word.
func Words(s string) []string {
	var words []string
	for len(s) > 0 {
		n := wordSize(s)
		if n > 0 {
			words = append(words, strings.Clone(s[:n]))
		}
		s = s[max(n, 1):]
	}
	return words
}

// wordSize tells how many bytes the word at the front of s has; 0, if a blank stands there.
func wordSize(s string) int {
	n := quotedSize(s)
	end := strings.IndexFunc(s[n:], blank)
	if end < 0 {
		return len(s)
	}
	return n + end
}

// quotedSize tells how many bytes at the front of s are quoted, with their quotation marks.
func quotedSize(s string) int {
	if !strings.HasPrefix(s, `"`) {
		return 0
	}
	taken := false
	for i, r := range s[1:] {
		switch {
		case taken:
			taken = false
		case r == '\\':
			taken = true
		case r == '"':
			return i + 2
		}
	}
	return len(s)
}

// blank tells whether words are parted at r.
func blank(r rune) bool {
	return r == ' ' || r == '\t' || r == '\n' || r == '\r'
}
