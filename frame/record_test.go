package frame_test

import (
	"bytes"
	"encoding/binary"
	"hash/crc32"
	"math"
	"testing"

	"flint/api"
	"flint/frame"
)

// rawRecord is a record of these bytes, made without frame.
func rawRecord(seq uint64, payload []byte) []byte {
	s := binary.LittleEndian.AppendUint64(nil, seq)
	s = append(s, payload...)
	r := binary.AppendUvarint(nil, uint64(len(payload)))
	r = binary.LittleEndian.AppendUint32(r, crc32.Checksum(s, castagnoli))
	return append(r, s...)
}

func TestP105RecordAndReadRecord(t *testing.T) {
	for _, c := range []struct {
		name    string
		seq     uint64
		payload []byte
	}{
		{"nothing", 0, nil},
		{"three bytes", 1 << 63, []byte("xyz")},
		{"a seq of unlike bytes", 0x0102030405060708, []byte("a")},
		{"127 bytes", 1, noise(1, 127)},
		{"128 bytes", 2, noise(2, 128)},
		{"the greatest seq", math.MaxUint64, noise(3, 70000)},
		{"the longest payload", 3, noise(4, api.MaxValue)},
	} {
		want := rawRecord(c.seq, c.payload)
		if r := frame.Record(c.seq, c.payload); !bytes.Equal(r, want) {
			t.Errorf("%s: not the record", c.name)
		}
		for _, behind := range []string{"", "\x00", "more"} {
			seq, b, n, e := frame.ReadRecord(append(bytes.Clone(want), behind...))
			if seq != c.seq || !bytes.Equal(b, c.payload) || n != len(want) || e != api.OK {
				t.Errorf("%s, %q behind: %d, %d bytes, %d, %v", c.name, behind, seq, len(b), n, e)
			}
		}
	}
}

func TestP105ReadRecordErrors(t *testing.T) {
	whole := rawRecord(5, []byte("xyz"))
	wrong := rawRecord(5, []byte("xyz"))
	wrong[4] ^= 0x80
	for _, c := range []struct {
		name string
		b    []byte
		want api.Errno
	}{
		{"nil", nil, api.ErrShort},
		{"number that ends early", []byte{0x80}, api.ErrShort},
		{"number not in its shortest form", append([]byte{0x83, 0}, whole[1:]...), api.ErrCanon},
		{"number above 64 bits", many(9, 0xFF, 2), api.ErrCanon},
		{"one byte too long", frame.Number(nil, api.MaxValue+1), api.ErrLong},
		{"one byte too long, all there", rawRecord(5, make([]byte, api.MaxValue+1)), api.ErrLong},
		{"longer than an int can say", frame.Number(nil, 1<<63), api.ErrLong},
		{"longest", frame.Number(nil, math.MaxUint64), api.ErrLong},
		{"the longest that may be, none there", frame.Number(nil, api.MaxValue), api.ErrShort},
		{"number alone", whole[:1], api.ErrShort},
		{"sum that ends early", whole[:4], api.ErrShort},
		{"no payload", whole[:13], api.ErrShort},
		{"one byte missing", whole[:15], api.ErrShort},
		{"one byte missing, and sum", wrong[:15], api.ErrShort},
		{"sum", wrong, api.ErrSum},
		{"payload of another size", append([]byte{2}, whole[1:]...), api.ErrSum},
		{"noughts alone", make([]byte, 13), api.ErrSum},
	} {
		seq, p, n, e := frame.ReadRecord(c.b)
		if seq != 0 || len(p) != 0 || n != 0 || e != c.want {
			t.Errorf("%s: %d, % X, %d, %v; want %v", c.name, seq, p, n, e, c.want)
		}
	}
}

func TestP106EveryBitOfARecord(t *testing.T) {
	for _, size := range []int{1, 3, 200} {
		r := frame.Record(77, noise(6, size))
		first := len(r) - size - 12
		for bit := 8 * first; bit < 8*len(r); bit++ {
			r[bit/8] ^= 1 << (bit % 8)
			if seq, b, n, e := frame.ReadRecord(r); seq != 0 || len(b) != 0 || n != 0 || e != api.ErrSum {
				t.Fatalf("%d bytes, bit %d: %v", size, bit, e)
			}
			r[bit/8] ^= 1 << (bit % 8)
		}
	}
}

func TestP106WhatRecordIsReadIsWrittenSo(t *testing.T) {
	for n := range 300 {
		b := append(rawRecord(uint64(n)<<50, noise(uint64(n), n)), noise(8, n%5)...)
		seq, payload, took, e := frame.ReadRecord(b)
		if e != api.OK || !bytes.Equal(frame.Record(seq, payload), b[:took]) {
			t.Fatalf("%d bytes: %d, %v", n, took, e)
		}
	}
}
