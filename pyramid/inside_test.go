package pyramid

import (
	"slices"
	"testing"

	"flint/api"
	"flint/frame"
)

// However many facts are pending, few lists have them, so that Put and Get are quick.
func TestP1302FewListsPend(t *testing.T) {
	var p pending
	for i := range 5000 {
		p = p.with(api.Fact{Key: string(rune(i * 7 % 1000)), Seq: uint64(i + 1)})
		if len(p) > 13 || p.count() != i+1 {
			t.Fatalf("%d lists of %d facts, of %d", len(p), p.count(), i+1)
		}
	}
}

// signed tells bytes with a Sum that fits.
func signed(b ...byte) []byte {
	return append(summed(b), b...)
}

// Bytes whose Sum fits are refused all the same, if they are not just what Encode writes.
func TestP1305BytesOfNoStateThatFit(t *testing.T) {
	patch, elision := []byte{1, 2, 3, 4, 5, 6}, []byte{1, 'a', 1, 'b', 7}
	great := frame.Number(nil, 1<<63)
	for _, c := range []struct {
		name string
		b    []byte
		want api.Errno
	}{
		{"nothing", nil, api.ErrForm},
		{"a number alone", []byte{9}, api.ErrForm},
		{"no elisions", []byte{9, 0}, api.ErrForm},
		{"no facts", []byte{9, 0, 0}, api.OK},
		{"more behind", []byte{9, 0, 0, 0}, api.ErrForm},
		{"a long number", []byte{0x89, 0, 0, 0}, api.ErrForm},
		{"a long number of patches", []byte{9, 0x80, 0, 0}, api.ErrForm},
		{"a patch", slices.Concat([]byte{9, 1}, patch, []byte{0}), api.OK},
		{"a patch that ends early", slices.Concat([]byte{9, 1}, patch), api.ErrForm},
		{"a patch fewer", slices.Concat([]byte{9, 2}, patch, []byte{0}), api.ErrForm},
		{"far fewer patches", slices.Concat([]byte{9}, great, patch, []byte{0}), api.ErrForm},
		{"no patches, said far too many", slices.Concat([]byte{9}, great), api.ErrForm},
		{"an elision", slices.Concat([]byte{9, 0, 1}, elision), api.OK},
		{"an elision more", slices.Concat([]byte{9, 0, 1}, elision, elision), api.ErrForm},
		{"an elision fewer", slices.Concat([]byte{9, 0, 2}, elision), api.ErrForm},
		{"far fewer elisions", slices.Concat([]byte{9, 0}, great, elision), api.ErrForm},
		{"an elision that ends early", slices.Concat([]byte{9, 0, 1}, elision[:4]), api.ErrForm},
		{"a key that ends early", []byte{9, 0, 1, 5, 'a', 1, 'b', 7}, api.ErrForm},
		{"a key that is far too long", slices.Concat([]byte{9, 0, 1}, great, elision), api.ErrForm},
	} {
		s, e := Decode(signed(c.b...))
		if e != c.want || e != api.OK && (s.Seq != 0 || len(s.Patches) != 0 || len(s.Elisions) != 0) {
			t.Errorf("%s: %v, %v; want %v", c.name, s, e, c.want)
		}
		if e == api.OK && !slices.Equal(Encode(s), signed(c.b...)) {
			t.Errorf("%s: %v is not written so", c.name, s)
		}
	}
}

func TestP1305AnyBytesThatFit(t *testing.T) {
	r := uint32(7)
	found := 0
	for range 200000 {
		b := make([]byte, r>>8%12)
		for i := range b {
			r = r*1664525 + 1013904223
			b[i] = byte(r>>16) & byte(r>>24) & 0x8F
		}
		r = r*1664525 + 1013904223
		s, e := Decode(signed(b...))
		if e != api.OK {
			continue
		}
		found++
		if !slices.Equal(Encode(s), signed(b...)) {
			t.Fatalf("% X: %v is not written so", b, s)
		}
	}
	if found < 100 {
		t.Errorf("%d states: too few to tell", found)
	}
}
