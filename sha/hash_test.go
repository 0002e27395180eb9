package sha_test

import (
	"bytes"
	"encoding/hex"
	"math/rand"
	"slices"
	"strings"
	"testing"

	"flint/api"
	"flint/sha"
)

// one tells a hash with x at i, and zeros elsewhere.
func one(i int, x byte) sha.Hash {
	var h sha.Hash
	h[i] = x
	return h
}

// refused asks that s is the String of no hash.
func refused(t *testing.T, s string) {
	t.Helper()
	if h, e := sha.Parse(s); h != (sha.Hash{}) || e != api.ErrForm {
		t.Fatalf("Parse(%q): %s, %v; want form", s, h, e)
	}
}

func TestP1502EachByte(t *testing.T) {
	for i := range 32 {
		for x := range 256 {
			h := one(i, byte(x))
			s := h.String()
			if s != hex.EncodeToString(h[:]) {
				t.Fatalf("byte %d of %d: %s", x, i, s)
			}
			if got, e := sha.Parse(s); got != h || e != api.OK {
				t.Fatalf("Parse(%s): %s, %v", s, got, e)
			}
		}
	}
}

func TestP1502RandomHashes(t *testing.T) {
	r := rand.New(rand.NewSource(2))
	for range 2000 {
		var h sha.Hash
		r.Read(h[:])
		if h.String() != hex.EncodeToString(h[:]) {
			t.Fatalf("String: %s; want %x", h, h[:])
		}
		if got, e := sha.Parse(h.String()); got != h || e != api.OK {
			t.Fatalf("Parse(%s): %s, %v", h, got, e)
		}
	}
}

// Each byte that is no digit, and capital ones, at each place.
func TestP1502ParseRefusesWhatIsNoDigit(t *testing.T) {
	good := []byte(sha.Sum([]byte("abc")).String())
	for i := range good {
		for x := range 256 {
			b := bytes.Clone(good)
			b[i] = byte(x)
			if strings.IndexByte("0123456789abcdef", byte(x)) < 0 {
				refused(t, string(b))
				continue
			}
			h, e := sha.Parse(string(b))
			if e != api.OK || h.String() != string(b) {
				t.Fatalf("Parse(%q): %s, %v", b, h, e)
			}
		}
	}
}

func TestP1502ParseRefusesOtherLengths(t *testing.T) {
	good := sha.Sum().String()
	for n := range 200 {
		if n != len(good) {
			refused(t, strings.Repeat(good, 4)[:n])
			refused(t, strings.Repeat("0", n))
		}
	}
	refused(t, " "+good)
	refused(t, good+" ")
	refused(t, " "+good[1:])
	refused(t, good[:63]+"\n")
	refused(t, strings.ToUpper(good))
	refused(t, "0x"+good)
	refused(t, "0x"+good[2:])
}

// Runes of several bytes: as many bytes, and as many runes, as a hash has digits.
func TestP1502ParseRefusesRunes(t *testing.T) {
	refused(t, strings.Repeat("é", 32))
	refused(t, strings.Repeat("é", 64))
	refused(t, strings.Repeat("1", 62)+"é")
	refused(t, strings.Repeat("1", 61)+"\uff11")
	refused(t, strings.Repeat("\uff11", 64))
	refused(t, strings.Repeat("\xff", 64))
}

func TestP1502CompareByEachByte(t *testing.T) {
	for i := range 32 {
		for x := range 256 {
			for _, y := range []int{0, 1, x - 1, x, x + 1, 127, 128, 255} {
				if y < 0 || y > 255 {
					continue
				}
				a, b := one(i, byte(x)), one(i, byte(y))
				if got, want := sha.Compare(a, b), bytes.Compare(a[:], b[:]); got != want {
					t.Fatalf("Compare at %d of %d and %d: %d; want %d", i, x, y, got, want)
				}
			}
		}
	}
}

// The first byte that is unlike counts, whatever comes behind it.
func TestP1502CompareByTheFirstUnlike(t *testing.T) {
	for i := range 32 {
		for j := range i {
			a, b := one(j, 2), one(i, 255)
			b[j] = 1
			if sha.Compare(a, b) != 1 || sha.Compare(b, a) != -1 {
				t.Fatalf("Compare at %d, and %d behind it", j, i)
			}
		}
	}
}

func TestP1502CompareOrders(t *testing.T) {
	r := rand.New(rand.NewSource(5))
	var l []sha.Hash
	for range 500 {
		h := sha.Sum([]byte{byte(r.Intn(100))})
		h[r.Intn(32)] = byte(r.Intn(3))
		l = append(l, h)
	}
	slices.SortFunc(l, sha.Compare)
	for i, h := range l[1:] {
		if was := l[i]; bytes.Compare(was[:], h[:]) > 0 || sha.Compare(h, h) != 0 {
			t.Fatalf("%s ahead of %s", was, h)
		}
	}
}
