package name_test

import (
	"strings"
	"testing"

	"flint/api"
	"flint/name"
)

var quotes = []struct{ s, q string }{
	{"", `""`},
	{"abc", `"abc"`},
	{"a b/c", `"a b/c"`},
	{"a\"\xFF", `"a\"\xff"`},
	{`"`, `"\""`},
	{`\`, `"\\"`},
	{`\"`, `"\\\""`},
	{`\x41`, `"\\x41"`},
	{`\n`, `"\\n"`},
	{"\x00\x01\t\n\r\x1F", `"\x00\x01\x09\x0a\x0d\x1f"`},
	{"\x7F", `"\x7f"`},
	{" ~", `" ~"`},
	{"dätä", `"dätä"`},
	{"\u0080\u009F\u00A0", "\"\u0080\u009F\u00A0\""},
	{"\u2028\u00AD\uFEFF\uFFFE", "\"\u2028\u00AD\uFEFF\uFFFE\""},
	{"\uFFFD", "\"\uFFFD\""},
	{"\uFFFD\xFD", "\"\uFFFD\\xfd\""},
	{"\U0010FFFF", "\"\U0010FFFF\""},
	{"\x80", `"\x80"`},
	{"\xC3", `"\xc3"`},
	{"\xC3\"", `"\xc3\""`},
	{"\xC3\xC3\xA4", `"\xc3ä"`},
	{"\xA4\xC3", `"\xa4\xc3"`},
	{"\xE2\x82a", `"\xe2\x82a"`},
	{"\xE2\xC3\xA4", `"\xe2ä"`},
	{"\xF0\x90\x80", `"\xf0\x90\x80"`},
	{"\xC0\x80", `"\xc0\x80"`},
	{"\xED\xA0\x80", `"\xed\xa0\x80"`},
	{"\xF4\x90\x80\x80", `"\xf4\x90\x80\x80"`},
	{"'`$", "\"'`$\""},
}

func TestP203Quote(t *testing.T) {
	for _, c := range quotes {
		if q := name.Quote(c.s); q != c.q {
			t.Errorf("%q: %s; want %s", c.s, q, c.q)
		}
	}
}

// quoteOf tells what Quote must.
func quoteOf(s string) string {
	const digits = "0123456789abcdef"
	var q strings.Builder
	for len(s) > 0 {
		r, n := front(s)
		switch {
		case n == 0 || r < 0x20 || r == 0x7F:
			n = 1
			q.WriteString(`\x` + digits[s[0]/16:][:1] + digits[s[0]%16:][:1])
		case r == '"' || r == '\\':
			q.WriteString(`\` + s[:1])
		default:
			q.WriteString(s[:n])
		}
		s = s[n:]
	}
	return `"` + q.String() + `"`
}

func TestP203QuoteOfAllEdges(t *testing.T) {
	for s := range edgy {
		if q := name.Quote(s); q != quoteOf(s) {
			t.Fatalf("%q: %s; want %s", s, q, quoteOf(s))
		}
	}
}

func TestP203Unquote(t *testing.T) {
	for _, c := range quotes {
		if s, e := name.Unquote(c.q); s != c.s || e != api.OK {
			t.Errorf("%s: %q, %v; want %q", c.q, s, e, c.s)
		}
	}
}

func TestP203UnquoteErrors(t *testing.T) {
	for _, c := range []struct{ what, q string }{
		{"nothing", ``},
		{"one mark", `"`},
		{"no marks", `abc`},
		{"no first mark", `abc"`},
		{"no last mark", `"abc`},
		{"other marks", "`abc`"},
		{"bytes ahead", ` "abc"`},
		{"bytes behind", `"abc" `},
		{"three marks", `"""`},
		{"a mark within", `"a"b"`},
		{"a mark that is taken at the end", `"\"`},
		{"the same behind two", `"\\\"`},
		{"a letter that needs none", `"\a"`},
		{"a line end by its letter", `"\n"`},
		{"no digit", `"\x"`},
		{"one digit", `"\x1"`},
		{"a digit that is none", `"\x1g"`},
		{"a first digit that is none", `"\xg1"`},
		{"a sign for a digit", `"\x+1"`},
		{"a low line for a digit", `"\x_1"`},
		{"a great letter", `"\xFF"`},
		{"a great letter, below 20", `"\x0A"`},
		{"a great X", `"\Xff"`},
		{"eight digits' form", `"\u0001"`},
		{"a letter by digits", `"\x41"`},
		{"a blank by digits", `"\x20"`},
		{"a mark by digits", `"\x22"`},
		{"a \\ by digits", `"\x5c"`},
		{"a rune by digits", `"\xc3\xa4"`},
		{"the rune 80 by digits", `"\xc2\x80"`},
		{"FFFD by digits", `"\xef\xbf\xbd"`},
		{"a rune by digits in part", "\"\\xc3\xA4\""},
		{"a rune by digits in its other part", "\"\xC3\\xa4\""},
		{"a rune by digits among right ones", `"\xc3\xc3\xa4"`},
		{"a line end as it is", "\"\n\""},
		{"7F as it is", "\"\x7F\""},
		{"a byte of no rune as it is", "\"a\xFF\""},
		{"a rune that ends early as it is", "\"\xC3\""},
	} {
		if s, e := name.Unquote(c.q); s != "" || e != api.ErrForm {
			t.Errorf("%s, %q: %q, %v; want form", c.what, c.q, s, e)
		}
	}
}

// TestP203UnquoteTakesQuotesAlone asks for texts between marks, and without them.
func TestP203UnquoteTakesQuotesAlone(t *testing.T) {
	for inner := range strung(6, `"`, `\`, `x`, `0`, `8`, `c`, "\xC3", "\xA4") {
		for _, q := range []string{inner, `"` + inner + `"`} {
			s, e := name.Unquote(q)
			if e == api.OK && quoteOf(s) != q || e != api.OK && (s != "" || e != api.ErrForm) {
				t.Fatalf("%q: %q, %v", q, s, e)
			}
		}
	}
}

func TestP206UnquoteOfQuoteIsTheText(t *testing.T) {
	for s := range edgy {
		if u, e := name.Unquote(name.Quote(s)); u != s || e != api.OK {
			t.Fatalf("%q: %q, %v", s, u, e)
		}
	}
	for seed := range uint64(2000) {
		s := noise(seed, int(seed%300))
		if u, e := name.Unquote(name.Quote(s)); u != s || e != api.OK {
			t.Fatalf("%q: %q, %v", s, u, e)
		}
	}
}
