package name_test

import (
	"math"
	"testing"

	"flint/api"
	"flint/name"
)

func TestP205Fold(t *testing.T) {
	for _, c := range []struct{ what, s, want string }{
		{"nothing", "", ""},
		{"great and small", "AbCxYZ", "abcxyz"},
		{"all of them", "ABCDEFGHIJKLMNOPQRSTUVWXYZ", "abcdefghijklmnopqrstuvwxyz"},
		{"those about them", "@[`{09 \"\\", "@[`{09 \"\\"},
		{"greater runes", "ÄÖΣİK\u212A", "ÄÖΣİk\u212A"},
		{"bytes of no rune", "A\xFFB\xC3C\xE2\x82D\x80", "a\xFFb\xC3c\xE2\x82d\x80"},
		{"a rune FFFD", "A\uFFFDB", "a\uFFFDb"},
		{"a byte 0", "A\x00B", "a\x00b"},
	} {
		if s := name.Fold(c.s); s != c.want {
			t.Errorf("%s, %q: %q; want %q", c.what, c.s, s, c.want)
		}
	}
}

func TestP205FoldOfEveryByte(t *testing.T) {
	for x := range 256 {
		want := byte(x)
		if x >= 'A' && x <= 'Z' {
			want += 32
		}
		for _, about := range []string{"", "a", "\xC3", "\xE2\x82", "\xFF"} {
			s := about + string([]byte{byte(x)}) + about
			if got := name.Fold(s); got != about+string([]byte{want})+about {
				t.Errorf("%q: %q", s, got)
			}
		}
	}
}

var keys = []struct {
	s string
	n uint64
	k string
}{
	{"", 0, "\x00\x00\x00\x00\x00\x00\x00\x00\x00"},
	{"", 1, "\x00\x00\x00\x00\x00\x00\x00\x00\x01"},
	{"a", 300, "a\x00\x00\x00\x00\x00\x00\x00\x01\x2C"},
	{"abc", 0x0102030405060708, "abc\x00\x01\x02\x03\x04\x05\x06\x07\x08"},
	{"dätä", math.MaxUint64, "dätä\x00\xFF\xFF\xFF\xFF\xFF\xFF\xFF\xFF"},
	{"a", 1 << 63, "a\x00\x80\x00\x00\x00\x00\x00\x00\x00"},
	{"a\x00b", 7, "a\x00b\x00\x00\x00\x00\x00\x00\x00\x00\x07"},
	{"\x00", 0, "\x00\x00\x00\x00\x00\x00\x00\x00\x00\x00"},
	{"\xFF\xC3", 0xFF00, "\xFF\xC3\x00\x00\x00\x00\x00\x00\x00\xFF\x00"},
}

func TestP205Key(t *testing.T) {
	for _, c := range keys {
		if k := name.Key(c.s, c.n); k != c.k {
			t.Errorf("%q, %d: %q; want %q", c.s, c.n, k, c.k)
		}
	}
}

func TestP205ReadKey(t *testing.T) {
	for _, c := range keys {
		if s, n, e := name.ReadKey(c.k); s != c.s || n != c.n || e != api.OK {
			t.Errorf("%q: %q, %d, %v; want %q, %d", c.k, s, n, e, c.s, c.n)
		}
	}
}

func TestP205ReadKeyErrors(t *testing.T) {
	for _, c := range []struct{ what, k string }{
		{"nothing", ""},
		{"a byte 0", "\x00"},
		{"eight bytes", "\x00\x00\x00\x00\x00\x00\x00\x00"},
		{"nine bytes, the first not 0", "\x01\x00\x00\x00\x00\x00\x00\x00\x00"},
		{"the eighth from the end 0", "abc\x00\x01\x02\x03\x04\x05\x06\x07"},
		{"the tenth from the end 0", "abc\x00\x01\x02\x03\x04\x05\x06\x07\x08\x09"},
		{"ninth from the end a letter", "aaaaaaaaaa"},
	} {
		if s, n, e := name.ReadKey(c.k); s != "" || n != 0 || e != api.ErrForm {
			t.Errorf("%s, %q: %q, %d, %v; want form", c.what, c.k, s, n, e)
		}
	}
}

func TestP205WhatIsReadIsTheKey(t *testing.T) {
	for seed := range uint64(3000) {
		b := []byte(noise(seed, int(seed%24)))
		if len(b) >= 9 && seed%2 == 0 {
			b[len(b)-9] = 0
		}
		k := string(b)
		right := len(b) >= 9 && b[len(b)-9] == 0
		s, n, e := name.ReadKey(k)
		if right != (e == api.OK) || right && name.Key(s, n) != k {
			t.Fatalf("%q: %q, %d, %v", k, s, n, e)
		}
	}
}

func TestP206KeysAreOrderedAsNumbers(t *testing.T) {
	var numbers []uint64
	for bit := range 64 {
		numbers = append(numbers, 1<<bit-1, 1<<bit, 1<<bit+1, math.MaxUint64<<bit)
	}
	for _, s := range []string{"", "a", "\xFF\x00"} {
		for _, a := range numbers {
			for _, b := range numbers {
				if (a < b) != (name.Key(s, a) < name.Key(s, b)) {
					t.Fatalf("%q: %x and %x", s, a, b)
				}
			}
		}
	}
}
