package name_test

import (
	"iter"
	"math"
	"slices"
	"strings"
	"testing"

	"flint/api"
	"flint/name"
)

// front tells the rune whose shortest UTF-8 stands at the front of s, and its bytes; 0 of them, if none does.
// It is made from the document's words, without the library's decoding.
func front(s string) (rune, int) {
	for n := 1; n <= min(len(s), 4); n++ {
		r := bits(s[:n])
		if r >= 0 && string(r) == s[:n] && !(r >= 0xD800 && r <= 0xDFFF) && r <= 0x10FFFF {
			return r, n
		}
	}
	return 0, 0
}

// bits tells the number in the bits of s, if its bytes begin as those of a rune of that many bytes do; else -1.
func bits(s string) rune {
	heads := []struct{ mark, mask byte }{{0, 0x7F}, {0xC0, 0x1F}, {0xE0, 0x0F}, {0xF0, 0x07}}
	h := heads[len(s)-1]
	if s[0]&^h.mask != h.mark {
		return -1
	}
	r := rune(s[0] & h.mask)
	for i := 1; i < len(s); i++ {
		if s[i]&0xC0 != 0x80 {
			return -1
		}
		r = r<<6 | rune(s[i]&0x3F)
	}
	return r
}

// strung goes over all texts of one to n of the letters.
func strung(n int, letters ...string) iter.Seq[string] {
	return func(yield func(string) bool) {
		level := []string{""}
		for range n {
			var next []string
			for _, s := range level {
				for _, l := range letters {
					if !yield(s + l) {
						return
					}
					next = append(next, s+l)
				}
			}
			level = next
		}
	}
}

// edgy goes over all texts of at most four bytes that are edges of UTF-8 or of quoting.
func edgy(yield func(string) bool) {
	const edges = "\x00\x1F\x20\"A\\x\x7F\x80\x8F\x90\x9F\xA0\xBD\xBF\xC0\xC1\xC2\xDF\xE0\xE1\xED\xEF\xF0\xF1\xF4\xF5\xFF"
	var letters []string
	for i := range len(edges) {
		letters = append(letters, edges[i:i+1])
	}
	strung(4, letters...)(yield)
}

// runesOf tells what Runes must.
func runesOf(s string) ([]rune, bool) {
	var l []rune
	for len(s) > 0 {
		r, n := front(s)
		if n == 0 {
			return nil, false
		}
		l = append(l, r)
		s = s[n:]
	}
	return l, true
}

var texts = []struct {
	s string
	l []rune
}{
	{"", nil},
	{"abc", []rune{'a', 'b', 'c'}},
	{"dätä", []rune{'d', 0xE4, 't', 0xE4}},
	{"\x00", []rune{0}},
	{"\x7F", []rune{0x7F}},
	{"\xC2\x80", []rune{0x80}},
	{"\xDF\xBF", []rune{0x7FF}},
	{"\xE0\xA0\x80", []rune{0x800}},
	{"\xED\x9F\xBF", []rune{0xD7FF}},
	{"\xEE\x80\x80", []rune{0xE000}},
	{"\xEF\xBF\xBD", []rune{0xFFFD}},
	{"a\xEF\xBF\xBDb", []rune{'a', 0xFFFD, 'b'}},
	{"\xEF\xBF\xBE\xEF\xBF\xBF", []rune{0xFFFE, 0xFFFF}},
	{"\xF0\x90\x80\x80", []rune{0x10000}},
	{"\xF4\x8F\xBF\xBF", []rune{0x10FFFF}},
	{"a\xCC\x81", []rune{'a', 0x301}},
}

func TestP201Runes(t *testing.T) {
	for _, c := range texts {
		if l, ok := name.Runes(c.s); !ok || !slices.Equal(l, c.l) {
			t.Errorf("%q: %x, %v; want %x", c.s, l, ok, c.l)
		}
	}
}

func TestP201NoRunes(t *testing.T) {
	for _, c := range []struct{ what, s string }{
		{"a byte within no rune", "\x80"},
		{"behind runes", "ab\xBF"},
		{"ahead of runes", "\xBFab"},
		{"behind a rune FFFD", "\xEF\xBF\xBD\xFF"},
		{"ahead of a rune FFFD", "\xFF\xEF\xBF\xBD"},
		{"FE", "\xFE"},
		{"FF", "\xFF"},
		{"a rune of two bytes that ends early", "\xC3"},
		{"of two, another behind it", "\xC3a"},
		{"of three that ends early", "\xEF\xBF"},
		{"of four that ends early", "\xF0\x90\x80"},
		{"0 in two bytes", "\xC0\x80"},
		{"7F in two bytes", "\xC1\xBF"},
		{"7FF in three bytes", "\xE0\x9F\xBF"},
		{"FFFF in four bytes", "\xF0\x8F\xBF\xBF"},
		{"the lowest surrogate", "\xED\xA0\x80"},
		{"the highest surrogate", "\xED\xBF\xBF"},
		{"a pair of surrogates", "\xED\xA0\x80\xED\xB0\x80"},
		{"110000", "\xF4\x90\x80\x80"},
		{"140000", "\xF5\x80\x80\x80"},
		{"a rune of five bytes", "\xF8\x88\x80\x80\x80"},
	} {
		if l, ok := name.Runes(c.s); ok || len(l) != 0 {
			t.Errorf("%s, %q: %x, %v; want none", c.what, c.s, l, ok)
		}
	}
}

func TestP201RunesOfAllEdges(t *testing.T) {
	for s := range edgy {
		l, ok := name.Runes(s)
		want, right := runesOf(s)
		if ok != right || !slices.Equal(l, want) {
			t.Fatalf("%q: %x, %v; want %x, %v", s, l, ok, want, right)
		}
	}
}

func TestP201Text(t *testing.T) {
	for _, c := range texts {
		if s := name.Text(c.l...); s != c.s {
			t.Errorf("%x: %q; want %q", c.l, s, c.s)
		}
	}
	for _, r := range []rune{-1, math.MinInt32, 0xD800, 0xDBFF, 0xDC00, 0xDFFF, 0x110000, math.MaxInt32} {
		if s := name.Text('a', r, 'b'); s != "a\xEF\xBF\xBDb" {
			t.Errorf("%x: %q; want FFFD", r, s)
		}
	}
	if s := name.Text(0xD800, 0xDC00); s != "\xEF\xBF\xBD\xEF\xBF\xBD" {
		t.Errorf("a pair of surrogates: %q", s)
	}
}

func TestP206TextOfRunesIsTheText(t *testing.T) {
	for s := range edgy {
		if l, ok := name.Runes(s); ok && name.Text(l...) != s {
			t.Fatalf("%q: %q", s, name.Text(l...))
		}
	}
	for r := rune(0); r <= 0x10FFFF; r++ {
		if r >= 0xD800 && r <= 0xDFFF {
			continue
		}
		if l, ok := name.Runes(name.Text(r)); !ok || len(l) != 1 || l[0] != r {
			t.Fatalf("%x: %x, %v", r, l, ok)
		}
	}
}

func TestP202Check(t *testing.T) {
	for _, c := range []struct {
		what, s string
		want    api.Errno
	}{
		{"an example", "dätä", api.OK},
		{"one rune", "a", api.OK},
		{"a sign", "~!#$%&'()*+,-.:;<=>?@[]^_`{|}", api.OK},
		{"32 runes", strings.Repeat("a", 32), api.OK},
		{"32 runes, 64 bytes", strings.Repeat("ä", 32), api.OK},
		{"16 runes of four bytes", strings.Repeat("\U0001F600", 16), api.OK},
		{"64 bytes of runes of one to four", strings.Repeat("\U00010000", 15) + "\u0800a", api.OK},
		{"rune FFFC", "\uFFFC", api.OK},
		{"rune FFFE", "\uFFFE", api.OK},
		{"rune A0", "\u00A0", api.OK},
		{"the highest rune", "\U0010FFFF", api.OK},
		{"no rune", "", api.ErrArg},
		{"a blank in it", "a b", api.ErrArg},
		{"33 runes", strings.Repeat("a", 33), api.ErrArg},
		{"33 runes, 64 bytes", strings.Repeat("ä", 31) + "ab", api.ErrArg},
		{"32 runes, 65 bytes", strings.Repeat("ä", 31) + "\u0800", api.ErrArg},
		{"22 runes of three bytes", strings.Repeat("\u0800", 22), api.ErrArg},
		{"17 runes of four bytes", strings.Repeat("\U00010000", 17), api.ErrArg},
		{"very many runes", strings.Repeat("a", 1<<20), api.ErrArg},
		{"a byte in no rune", "a\xFF", api.ErrArg},
		{"a rune that ends early", "ab\xC3", api.ErrArg},
		{"rune FFFD", "a\uFFFDb", api.ErrArg},
		{"a surrogate", "\xED\xA0\x80", api.ErrArg},
	} {
		if e := name.Check(c.s); e != c.want {
			t.Errorf("%s, %q: %v; want %v", c.what, c.s, e, c.want)
		}
	}
}

func TestP202CheckOfEveryRune(t *testing.T) {
	for r := rune(0); r <= 0x10FFFF; r++ {
		if r >= 0xD800 && r <= 0xDFFF {
			continue
		}
		want := api.OK
		if r <= 0x20 || r >= 0x7F && r <= 0x9F || r == '/' || r == '"' || r == '\\' || r == 0xFFFD {
			want = api.ErrArg
		}
		for _, s := range []string{string(r), "a" + string(r), string(r) + "a"} {
			if e := name.Check(s); e != want {
				t.Fatalf("%q: %v; want %v", s, e, want)
			}
		}
	}
}
