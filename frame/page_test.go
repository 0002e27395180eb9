package frame_test

import (
	"bytes"
	"encoding/binary"
	"hash/crc32"
	"math"
	"testing"

	"flint/api"
	"flint/frame"
)

// rawPage is a page of these numbers and this tail, whatever they are, with a sum that fits.
func rawPage(segment uint64, row uint32, shard byte, size uint16, tail []byte) []byte {
	p := make([]byte, 4)
	p = binary.LittleEndian.AppendUint64(p, segment)
	p = binary.LittleEndian.AppendUint32(p, row)
	p = append(p, shard)
	p = binary.LittleEndian.AppendUint16(p, size)
	p = append(p, tail...)
	binary.LittleEndian.PutUint32(p, crc32.Checksum(p[4:], castagnoli))
	return p
}

// tail tells x, and noughts behind it, n bytes in all.
func tail(n int, x string) []byte {
	return append([]byte(x), make([]byte, n-len(x))...)
}

func TestP104Room(t *testing.T) {
	for _, c := range []struct{ size, want int }{
		{math.MinInt, 0}, {-1, 0}, {0, 0}, {18, 0}, {19, 0}, {20, 0}, {31, 0},
		{32, 13}, {33, 14}, {4096, 4077}, {65535, 65516}, {65536, 65517},
		{65537, 0}, {1 << 20, 0}, {math.MaxInt, 0},
	} {
		if n := frame.Room(c.size); n != c.want {
			t.Errorf("Room(%d): %d; want %d", c.size, n, c.want)
		}
	}
}

func TestP104PageBytes(t *testing.T) {
	p, e := frame.Page(32, api.Head{Segment: 1}, []byte("a"))
	want := []byte{0, 0, 0, 0, 1, 0, 0, 0, 0, 0, 0, 0, 0, 0, 0, 0, 0, 1, 0, 'a', 0, 0, 0, 0, 0, 0, 0, 0, 0, 0, 0, 0}
	binary.LittleEndian.PutUint32(want, crc32.Checksum(want[4:], castagnoli))
	if e != api.OK || !bytes.Equal(p, want) {
		t.Errorf("% X, %v; want % X", p, e, want)
	}
}

func TestP104PageAndReadPage(t *testing.T) {
	big := string(noise(5, 65517))
	for _, c := range []struct {
		name    string
		size    int
		h       api.Head
		payload string
	}{
		{"all noughts", 32, api.Head{}, ""},
		{"numbers of unlike bytes", 40, api.Head{Segment: 0x0102030405060708, Row: 0x0A0B0C0D, Shard: 0x0E}, "payload"},
		{"a size of no power of two", 33, api.Head{Segment: 9, Row: 1, Shard: 2}, "x"},
		{"full", 32, api.Head{Row: 7, Shard: 1}, big[:13]},
		{"a payload that ends in noughts", 64, api.Head{}, "ab\x00\x00"},
		{"more than 255 bytes", 512, api.Head{Segment: 3}, big[:300]},
		{"most of all", 65536, api.Head{Segment: math.MaxUint64, Row: 1 << 30, Shard: 255}, big},
	} {
		p, e := frame.Page(c.size, c.h, []byte(c.payload))
		want := rawPage(c.h.Segment, uint32(c.h.Row), byte(c.h.Shard), uint16(len(c.payload)), tail(c.size-19, c.payload))
		if e != api.OK || !bytes.Equal(p, want) {
			t.Errorf("%s: not the page, %v", c.name, e)
		}
		h, b, e := frame.ReadPage(want)
		c.h.Size = len(c.payload)
		if h != c.h || string(b) != c.payload || e != api.OK {
			t.Errorf("%s: read: %v, %d bytes, %v; want %v", c.name, h, len(b), e, c.h)
		}
	}
}

func TestP104PagePassesSizeOver(t *testing.T) {
	want, _ := frame.Page(32, api.Head{Segment: 4}, []byte("ab"))
	for _, size := range []int{-1, 1, 2, 13, 14, 1 << 20} {
		if p, e := frame.Page(32, api.Head{Segment: 4, Size: size}, []byte("ab")); e != api.OK || !bytes.Equal(p, want) {
			t.Errorf("Size %d: % X, %v", size, p, e)
		}
	}
}

func TestP104PageErrors(t *testing.T) {
	for _, c := range []struct {
		name string
		size int
		h    api.Head
		n    int
		want api.Errno
	}{
		{"size below 0", -32, api.Head{}, 0, api.ErrArg},
		{"size 0", 0, api.Head{}, 0, api.ErrArg},
		{"size one too small", 31, api.Head{}, 0, api.ErrArg},
		{"size one too great", 65537, api.Head{}, 0, api.ErrArg},
		{"size far too great", math.MaxInt, api.Head{}, 0, api.ErrArg},
		{"row below 0", 32, api.Head{Row: -1}, 0, api.ErrArg},
		{"row one too great", 32, api.Head{Row: 1<<30 + 1}, 0, api.ErrArg},
		{"row that wraps", 32, api.Head{Row: 1 << 32}, 0, api.ErrArg},
		{"shard below 0", 32, api.Head{Shard: -1}, 0, api.ErrArg},
		{"shard one too great", 32, api.Head{Shard: 256}, 0, api.ErrArg},
		{"size and payload", 31, api.Head{}, 100, api.ErrArg},
		{"row and payload", 32, api.Head{Row: -1}, 14, api.ErrArg},
		{"shard and payload", 32, api.Head{Shard: 256}, 14, api.ErrArg},
		{"payload one too long", 32, api.Head{}, 14, api.ErrLong},
		{"payload as long as the page", 64, api.Head{}, 64, api.ErrLong},
		{"payload one too long for the greatest page", 65536, api.Head{}, 65518, api.ErrLong},
		{"payload far too long", 32, api.Head{}, 1 << 17, api.ErrLong},
	} {
		if p, e := frame.Page(c.size, c.h, make([]byte, c.n)); len(p) != 0 || e != c.want {
			t.Errorf("%s: %d bytes, %v; want %v", c.name, len(p), e, c.want)
		}
	}
}

func TestP104ReadPageErrors(t *testing.T) {
	unsummed := func(p []byte) []byte {
		p[0] ^= 1
		return p
	}
	for _, c := range []struct {
		name string
		b    []byte
		want api.Errno
	}{
		{"nil", nil, api.ErrArg},
		{"one byte", make([]byte, 1), api.ErrArg},
		{"too small, though its sum fits", rawPage(1, 0, 0, 0, make([]byte, 12)), api.ErrArg},
		{"too great, though its sum fits", rawPage(1, 0, 0, 0, make([]byte, 65518)), api.ErrArg},
		{"noughts alone", make([]byte, 32), api.ErrSum},
		{"sum", unsummed(rawPage(1, 2, 3, 4, make([]byte, 13))), api.ErrSum},
		{"sum, and row", unsummed(rawPage(1, 1<<30+1, 0, 0, make([]byte, 13))), api.ErrSum},
		{"row one too great", rawPage(1, 1<<30+1, 0, 0, make([]byte, 13)), api.ErrForm},
		{"greatest row", rawPage(1, math.MaxUint32, 0, 0, make([]byte, 13)), api.ErrForm},
		{"size one above Room", rawPage(1, 0, 0, 14, make([]byte, 13)), api.ErrForm},
		{"greatest size", rawPage(1, 0, 0, 65535, make([]byte, 13)), api.ErrForm},
		{"size above the greatest Room", rawPage(1, 0, 0, 65518, make([]byte, 65517)), api.ErrForm},
		{"a byte right behind the payload", rawPage(1, 0, 0, 1, tail(13, "ab")), api.ErrForm},
		{"a byte behind no payload", rawPage(1, 0, 0, 0, tail(13, "a")), api.ErrForm},
		{"the last byte", rawPage(1, 0, 0, 12, []byte("abcdefghijklm")), api.ErrForm},
	} {
		h, p, e := frame.ReadPage(c.b)
		if h != (api.Head{}) || len(p) != 0 || e != c.want {
			t.Errorf("%s: %v, % X, %v; want %v", c.name, h, p, e, c.want)
		}
	}
}

func TestP106WhatPageIsReadIsWrittenSo(t *testing.T) {
	read := 0
	for seed := range uint64(20000) {
		x := noise(seed, 32)
		b := rawPage(uint64(x[0]), uint32(x[1])<<23, x[2], uint16(x[3]&15), tail(13, string(x[5:5+x[4]&7])))
		h, payload, e := frame.ReadPage(b)
		if e != api.OK {
			continue
		}
		read++
		if p, e := frame.Page(len(b), h, payload); e != api.OK || !bytes.Equal(p, b) {
			t.Fatalf("% X: written: % X, %v", b, p, e)
		}
	}
	if read < 100 {
		t.Errorf("only %d pages were read", read)
	}
}

func TestP106EveryBitOfAPage(t *testing.T) {
	for _, size := range []int{32, 61, 512} {
		p, _ := frame.Page(size, api.Head{Segment: 77, Row: 5, Shard: 9}, noise(9, size/3))
		for bit := range 8 * size {
			p[bit/8] ^= 1 << (bit % 8)
			if h, b, e := frame.ReadPage(p); h != (api.Head{}) || len(b) != 0 || e != api.ErrSum {
				t.Fatalf("%d bytes, bit %d: %v", size, bit, e)
			}
			p[bit/8] ^= 1 << (bit % 8)
		}
	}
}
