package name_test

import (
	"math"
	"math/rand/v2"
	"slices"
	"strings"
	"testing"

	"flint/api"
	"flint/name"
)

// noise tells n bytes that are the same ones for the same seed.
func noise(seed uint64, n int) string {
	r := rand.New(rand.NewPCG(seed, 2))
	b := make([]byte, n)
	for i := range b {
		b[i] = byte(r.Uint32())
	}
	return string(b)
}

// askAll asks all calls that take a text; what is an error must tell nothing beside it.
func askAll(t *testing.T, s string) {
	t.Helper()
	name.Check(s)
	name.Quote(s)
	name.Fold(s)
	name.Key(s, math.MaxUint64)
	if l, ok := name.Runes(s); !ok && len(l) != 0 {
		t.Errorf("Runes %q: %x beside false", s, l)
	}
	if u, e := name.Unquote(s); e != api.OK && u != "" {
		t.Errorf("Unquote %q: %q beside %v", s, u, e)
	}
	if u, n, e := name.ReadKey(s); e != api.OK && (u != "" || n != 0) {
		t.Errorf("ReadKey %q: %q, %d beside %v", s, u, n, e)
	}
	if slices.Contains(name.Words(s), "") {
		t.Errorf("Words %q: a word without bytes", s)
	}
}

func TestP1P4AnyTextsAreTaken(t *testing.T) {
	for seed := range uint64(3000) {
		s := noise(seed, int(seed%80))
		askAll(t, s)
		askAll(t, `"`+s)
		askAll(t, `"`+s+`"`)
		askAll(t, `"\`+s+`\`)
		askAll(t, `"\x`+s+`\x"`)
	}
	for s := range edgy {
		askAll(t, s)
	}
}

func TestP1LongTextsAreTaken(t *testing.T) {
	for _, x := range []string{"a", " ", `"`, `\`, `\x`, "\xFF", "\xC3", "ä", "\x00", "a ", `"" `} {
		s := strings.Repeat(x, 1<<20)
		askAll(t, s)
		if u, e := name.Unquote(name.Quote(s)); u != s || e != api.OK {
			t.Errorf("many times %q: %d bytes, %v", x, len(u), e)
		}
	}
}

func TestP2RunesHandedInAreNotChanged(t *testing.T) {
	l := []rune{'a', -1, 0xD800, 0xE4, 'x', 'y'}
	was := slices.Clone(l)
	s := name.Text(l[:4]...)
	if !slices.Equal(l, was) {
		t.Errorf("%x; before %x", l, was)
	}
	clear(l)
	if s != "a\uFFFD\uFFFDä" {
		t.Errorf("%q: it hangs on runes that were handed in", s)
	}
}

func TestP2ListsShareNothing(t *testing.T) {
	first, _ := name.Runes("abc")
	second, _ := name.Runes("abc")
	clear(first[:cap(first)])
	if string(second) != "abc" {
		t.Errorf("Runes: %q", string(second))
	}
	words, others := name.Words("a b c"), name.Words("a b c")
	clear(words[:cap(words)])
	if !slices.Equal(others, []string{"a", "b", "c"}) {
		t.Errorf("Words: %q", others)
	}
}

func TestP3SameCallsSameAnswers(t *testing.T) {
	ask := func() []string {
		var all []string
		for seed := range uint64(200) {
			s := noise(seed, int(seed%60))
			l, _ := name.Runes(s)
			u, e := name.Unquote(name.Quote(s))
			all = append(all, name.Text(l...), u, e.Error(), name.Check(s).Error(), name.Fold(s), name.Key(s, seed))
			all = append(all, name.Words(s)...)
		}
		return all
	}
	if !slices.Equal(ask(), ask()) {
		t.Error("two rounds of the same calls answer otherwise")
	}
}
