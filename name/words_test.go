package name_test

import (
	"slices"
	"strings"
	"testing"

	"flint/name"
)

func TestP204Words(t *testing.T) {
	for _, c := range []struct {
		what, s string
		want    []string
	}{
		{"an example", `put "a b"c 1`, []string{"put", `"a b"c`, "1"}},
		{"nothing", "", nil},
		{"blanks alone", " \t\n\r  ", nil},
		{"one word", "abc", []string{"abc"}},
		{"one byte", "a", []string{"a"}},
		{"all blanks part", "a b\tc\nd\re", []string{"a", "b", "c", "d", "e"}},
		{"blanks about", "  a \r\n b  ", []string{"a", "b"}},
		{"other bytes that are no blanks", "a\x00b\vc\fd\u00A0e\u2003f\u0085g", []string{"a\x00b\vc\fd\u00A0e\u2003f\u0085g"}},
		{"bytes of no rune", "\xFF \xC3 \xA4\x20", []string{"\xFF", "\xC3", "\xA4"}},
		{"a rune FFFD", "\uFFFD a", []string{"\uFFFD", "a"}},
		{"quoted alone", `"a b"`, []string{`"a b"`}},
		{"quoted, nothing within", `"" a`, []string{`""`, "a"}},
		{"quoted over all blanks", "x \"a \t\n\rb\" c", []string{"x", "\"a \t\n\rb\"", "c"}},
		{"a mark within a word", `a"b c"d`, []string{`a"b`, `c"d`}},
		{"a mark behind a quoted part", `"a"b"c d"`, []string{`"a"b"c`, `d"`}},
		{"two quoted parts", `"a b""c d"`, []string{`"a b""c`, `d"`}},
		{"quoted ones with a blank between", `"a b" "c d"`, []string{`"a b"`, `"c d"`}},
		{"behind a quoted part up to a tab", "\"a b\"c\td", []string{`"a b"c`, "d"}},
		{"behind a quoted part up to a line end", "\"a b\"c\nd \"e\"\rf", []string{`"a b"c`, "d", `"e"`, "f"}},
		{"up to the end", `a "b c d`, []string{"a", `"b c d`}},
		{"up to the end, blanks last", `a "b `, []string{"a", `"b `}},
		{"a mark alone", `"`, []string{`"`}},
		{"a mark at the end", `a "`, []string{"a", `"`}},
		{"a mark that is taken", `"a\" b" c`, []string{`"a\" b"`, "c"}},
		{"a \\ that is taken", `"a\\" b" c`, []string{`"a\\"`, `b"`, "c"}},
		{"three of them", `"a\\\" b" c`, []string{`"a\\\" b"`, "c"}},
		{"four of them", `"a\\\\" b`, []string{`"a\\\\"`, "b"}},
		{"a letter that is taken", `"\a" b`, []string{`"\a"`, "b"}},
		{"a blank that is taken", `"\ " b`, []string{`"\ "`, "b"}},
		{"a long rune that is taken", `"\ä" b`, []string{`"\ä"`, "b"}},
		{"a torn one that is taken", "\"\\\xC3\" b", []string{"\"\\\xC3\"", "b"}},
		{"the last byte a \\", `"a b\`, []string{`"a b\`}},
		{"the last two a taken mark", `"a b\"`, []string{`"a b\"`}},
		{"a \\ outside takes nothing", `a\ b \"c d"`, []string{`a\`, "b", `\"c`, `d"`}},
		{"a \\ behind a quoted part takes nothing", `"a"\ b`, []string{`"a"\`, "b"}},
		{"a torn rune ahead of the mark", "\"a\xC3\" b", []string{"\"a\xC3\"", "b"}},
	} {
		if w := name.Words(c.s); !slices.Equal(w, c.want) {
			t.Errorf("%s, %q: %q; want %q", c.what, c.s, w, c.want)
		}
	}
}

// wordsOf tells what Words must, byte by byte.
func wordsOf(s string) []string {
	var words []string
	word, quoted, taken := "", false, false
	for i := range len(s) {
		c := s[i]
		switch {
		case taken:
			taken = false
		case quoted:
			taken = c == '\\'
			quoted = c != '"'
		case strings.IndexByte(" \t\n\r", c) >= 0:
			if word != "" {
				words = append(words, word)
			}
			word = ""
			continue
		case c == '"' && word == "":
			quoted = true
		}
		word += string([]byte{c})
	}
	if word != "" {
		words = append(words, word)
	}
	return words
}

func TestP204WordsOfAllEdges(t *testing.T) {
	for s := range strung(7, " ", "\n", `"`, `\`, "a", "\xC3", "\xA4") {
		if w := name.Words(s); !slices.Equal(w, wordsOf(s)) {
			t.Fatalf("%q: %q; want %q", s, w, wordsOf(s))
		}
	}
}

func TestP204QuotesAreWords(t *testing.T) {
	for seed := range uint64(300) {
		a, b := name.Quote(noise(seed, int(seed%40))), name.Quote(noise(seed+1000, int(seed%7)))
		want := []string{a, b, "end"}
		if w := name.Words(" " + a + "\n" + b + " end"); !slices.Equal(w, want) {
			t.Fatalf("%q; want %q", w, want)
		}
	}
}
