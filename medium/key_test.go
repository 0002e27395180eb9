package medium_test

import (
	"cmp"
	"math"
	"strings"
	"testing"

	"flint/medium"
)

func TestP1405Key(t *testing.T) {
	for _, c := range []struct {
		id    uint64
		block int
		want  string
	}{
		{0, 0, strings.Repeat("\x00", 16)},
		{1, 0, "\x00\x00\x00\x00\x00\x00\x00\x01\x00\x00\x00\x00\x00\x00\x00\x00"},
		{0, 1, "\x00\x00\x00\x00\x00\x00\x00\x00\x00\x00\x00\x00\x00\x00\x00\x01"},
		{0x0102030405060708, 0x1112131415161718, "\x01\x02\x03\x04\x05\x06\x07\x08\x11\x12\x13\x14\x15\x16\x17\x18"},
		{255, 256, "\x00\x00\x00\x00\x00\x00\x00\xff\x00\x00\x00\x00\x00\x00\x01\x00"},
		{math.MaxUint64, math.MaxInt, "\xff\xff\xff\xff\xff\xff\xff\xff\x7f\xff\xff\xff\xff\xff\xff\xff"},
		{2, most, "\x00\x00\x00\x00\x00\x00\x00\x02\x00\x00\x00\x00\x00\x10\x00\x00"},
	} {
		at := p(c.id, c.block)
		if k := medium.Key(at); k != c.want {
			t.Errorf("Key(%v): %x; want %x", at, k, c.want)
		}
		if got, ok := medium.ReadKey(c.want); !ok || got != at {
			t.Errorf("ReadKey(%x): %v, %v; want %v", c.want, got, ok, at)
		}
	}
}

func TestP1405ReadKeyRefuses(t *testing.T) {
	key := medium.Key(p(3, 4))
	for _, k := range []string{
		"", "\x00", key[:8], key[:15], key[1:], key + "\x00", "\x00" + key, key + key,
		key[:8] + "\x80" + key[9:],                          // a block below 0
		key[:8] + strings.Repeat("\xff", 8),                 // one below 0, too
		medium.Key(p(3, -1)), medium.Key(p(0, math.MinInt)), // no places have such keys
	} {
		if at, ok := medium.ReadKey(k); ok || at != p(0, 0) {
			t.Errorf("ReadKey(%x): %v, %v", k, at, ok)
		}
	}
}

// Keys are ordered as places are.
func TestP1405KeysAreInOrder(t *testing.T) {
	ids := []uint64{0, 1, 2, 127, 128, 255, 256, 65535, 65536, 1 << 32, 1<<63 - 1, 1 << 63, math.MaxUint64}
	blocks := []int{0, 1, 127, 128, 255, 256, most - 1, most, most + 1, 1 << 40, math.MaxInt}
	for _, a := range ids {
		for _, b := range ids {
			for _, i := range blocks {
				for _, j := range blocks {
					want := cmp.Or(cmp.Compare(a, b), cmp.Compare(i, j))
					if got := strings.Compare(medium.Key(p(a, i)), medium.Key(p(b, j))); got != want {
						t.Fatalf("%d, %d against %d, %d: %d; want %d", a, i, b, j, got, want)
					}
				}
			}
		}
	}
}

func TestP1405Stretch(t *testing.T) {
	for _, c := range []struct {
		id       uint64
		from, to int
		end      medium.Place
	}{
		{1, 0, 0, p(1, 0)},
		{1, 3, 8, p(1, 8)},
		{1, 8, 3, p(1, 3)},
		{7, 0, most - 1, p(7, most-1)},
		{7, 0, most, p(8, 0)},
		{7, 5, most + 1, p(8, 0)},
		{7, 5, math.MaxInt, p(8, 0)},
		{7, most, most, p(8, 0)},
		{255, 0, most, p(256, 0)},
		{math.MaxUint64 - 1, 0, most, p(math.MaxUint64, 0)},
		{math.MaxUint64, 2, 5, p(math.MaxUint64, 5)},
	} {
		lo, hi := medium.Stretch(c.id, c.from, c.to)
		if lo != medium.Key(p(c.id, c.from)) || hi != medium.Key(c.end) {
			t.Errorf("Stretch(%d, %d, %d): %x, %x", c.id, c.from, c.to, lo, hi)
		}
	}
}

// A stretch to MaxBlocks has all that a medium has, and nothing of the next one.
func TestP1405StretchOfAWholeMedium(t *testing.T) {
	lo, hi := medium.Stretch(9, 0, most)
	for _, c := range []struct {
		at   medium.Place
		want bool
	}{
		{p(8, math.MaxInt), false}, {p(9, 0), true}, {p(9, most-1), true}, {p(9, math.MaxInt), true}, {p(10, 0), false},
	} {
		k := medium.Key(c.at)
		if got := lo <= k && k < hi; got != c.want {
			t.Errorf("%v: %v; want %v", c.at, got, c.want)
		}
	}
}
