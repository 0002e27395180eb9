package frame_test

import (
	"bytes"
	"math"
	"testing"

	"flint/api"
	"flint/frame"
)

// many tells n bytes x, and the last ones behind them.
func many(n int, x byte, last ...byte) []byte {
	return append(bytes.Repeat([]byte{x}, n), last...)
}

var numbers = []struct {
	v uint64
	b []byte
}{
	{0, []byte{0}},
	{1, []byte{1}},
	{0x7F, []byte{0x7F}},
	{0x80, []byte{0x80, 1}},
	{300, []byte{0xAC, 2}},
	{1<<14 - 1, []byte{0xFF, 0x7F}},
	{1 << 14, []byte{0x80, 0x80, 1}},
	{1<<21 - 1, many(2, 0xFF, 0x7F)},
	{1 << 32, many(4, 0x80, 0x10)},
	{1<<63 - 1, many(8, 0xFF, 0x7F)},
	{1 << 63, many(9, 0x80, 1)},
	{1<<64 - 1, many(9, 0xFF, 1)},
}

func TestP102Number(t *testing.T) {
	for _, c := range numbers {
		if b := frame.Number(nil, c.v); !bytes.Equal(b, c.b) {
			t.Errorf("%d: % X; want % X", c.v, b, c.b)
		}
		want := append([]byte{9, 0x80}, c.b...)
		if b := frame.Number([]byte{9, 0x80}, c.v); !bytes.Equal(b, want) {
			t.Errorf("%d behind bytes: % X; want % X", c.v, b, want)
		}
	}
}

func TestP102ReadNumber(t *testing.T) {
	for _, c := range numbers {
		for _, behind := range [][]byte{nil, {0}, {0xFF, 0xFF}} {
			b := append(bytes.Clone(c.b), behind...)
			if v, n, e := frame.ReadNumber(b); v != c.v || n != len(c.b) || e != api.OK {
				t.Errorf("% X: %d, %d, %v; want %d, %d", b, v, n, e, c.v, len(c.b))
			}
		}
	}
}

func TestP102ReadNumberErrors(t *testing.T) {
	for _, c := range []struct {
		name string
		b    []byte
		want api.Errno
	}{
		{"nil", nil, api.ErrShort},
		{"empty", []byte{}, api.ErrShort},
		{"one that goes on", []byte{0x80}, api.ErrShort},
		{"nine that go on", many(9, 0xFF), api.ErrShort},
		{"ten that go on", many(10, 0xFF), api.ErrCanon},
		{"ten that go on, noughts in them", many(10, 0x80), api.ErrCanon},
		{"eleven bytes", many(10, 0x80, 1), api.ErrCanon},
		{"twenty that go on", many(20, 0xFF), api.ErrCanon},
		{"above 64 bits", many(9, 0xFF, 2), api.ErrCanon},
		{"above 64 bits, the lowest one", many(9, 0x80, 2), api.ErrCanon},
		{"above 64 bits, all bits", many(9, 0xFF, 0x7F), api.ErrCanon},
		{"nought in two bytes", []byte{0x80, 0}, api.ErrCanon},
		{"127 in two bytes", []byte{0xFF, 0}, api.ErrCanon},
		{"two bytes, and more behind", []byte{0x81, 0, 7}, api.ErrCanon},
		{"ten bytes, the last 0", many(9, 0xFF, 0), api.ErrCanon},
	} {
		if v, n, e := frame.ReadNumber(c.b); v != 0 || n != 0 || e != c.want {
			t.Errorf("%s: %d, %d, %v; want %v", c.name, v, n, e, c.want)
		}
	}
}

func TestP106NumbersAreReadAsWritten(t *testing.T) {
	for bit := range 64 {
		for _, v := range []uint64{1 << bit, 1<<bit - 1, 1<<bit + 1, math.MaxUint64 << bit} {
			b := frame.Number(nil, v)
			if got, n, e := frame.ReadNumber(b); got != v || n != len(b) || e != api.OK {
				t.Errorf("%d: %d, %d, %v", v, got, n, e)
			}
		}
	}
}

func TestP106WhatIsReadIsWrittenSo(t *testing.T) {
	for x := range 1 << 24 {
		b := []byte{byte(x), byte(x >> 8), byte(x >> 16)}
		v, n, e := frame.ReadNumber(b)
		if e == api.OK && !bytes.Equal(frame.Number(nil, v), b[:n]) {
			t.Fatalf("% X: %d in %d bytes", b, v, n)
		}
	}
}

func TestP103Bytes(t *testing.T) {
	long := noise(3, 200)
	for _, c := range []struct {
		name  string
		b     []byte
		parts [][]byte
		want  []byte
	}{
		{"no part", nil, nil, []byte{0}},
		{"empty parts", nil, [][]byte{nil, {}}, []byte{0}},
		{"one", nil, [][]byte{[]byte("abc")}, []byte("\x03abc")},
		{"some", nil, [][]byte{[]byte("ab"), nil, []byte("c")}, []byte("\x03abc")},
		{"behind bytes", []byte("x"), [][]byte{[]byte("ab"), []byte("c")}, []byte("x\x03abc")},
		{"none behind bytes", []byte("x"), nil, []byte("x\x00")},
		{"200", nil, [][]byte{long[:100], long[100:]}, append([]byte{0xC8, 1}, long...)},
	} {
		if b := frame.Bytes(c.b, c.parts...); !bytes.Equal(b, c.want) {
			t.Errorf("%s: % X; want % X", c.name, b, c.want)
		}
	}
}

func TestP103ReadBytes(t *testing.T) {
	long := noise(4, 300)
	for _, c := range []struct {
		name string
		b    []byte
		most int
		want []byte
		n    int
	}{
		{"none", []byte{0}, 0, nil, 1},
		{"none, most below 0", []byte{0}, -1, nil, 1},
		{"none, most far below 0", []byte{0, 5}, math.MinInt, nil, 1},
		{"as many as most", []byte("\x03abc"), 3, []byte("abc"), 4},
		{"fewer than most", []byte("\x03abcd"), 4, []byte("abc"), 4},
		{"no bound", []byte("\x03abcd"), math.MaxInt, []byte("abc"), 4},
		{"300", append([]byte{0xAC, 2}, long...), 300, long, 302},
	} {
		x, n, e := frame.ReadBytes(c.b, c.most)
		if !bytes.Equal(x, c.want) || n != c.n || e != api.OK {
			t.Errorf("%s: % X, %d, %v; want % X, %d", c.name, x, n, e, c.want, c.n)
		}
	}
}

func TestP103ReadBytesErrors(t *testing.T) {
	for _, c := range []struct {
		name string
		b    []byte
		most int
		want api.Errno
	}{
		{"nil", nil, 9, api.ErrShort},
		{"number that ends early", []byte{0x83}, 0, api.ErrShort},
		{"number not in its shortest form", []byte{0x83, 0, 1, 2, 3}, 9, api.ErrCanon},
		{"number above 64 bits, too long", many(9, 0xFF, 2), 0, api.ErrCanon},
		{"one more than most", []byte("\x03abc"), 2, api.ErrLong},
		{"most 0", []byte("\x01a"), 0, api.ErrLong},
		{"most below 0", []byte("\x01a"), -1, api.ErrLong},
		{"most far below 0", []byte("\x01a"), math.MinInt, api.ErrLong},
		{"too long and too short", []byte{3}, 2, api.ErrLong},
		{"one missing", []byte("\x03ab"), 3, api.ErrShort},
		{"all missing", []byte("\x03"), math.MaxInt, api.ErrShort},
		{"the longest that an int can say", frame.Number(nil, math.MaxInt), math.MaxInt, api.ErrShort},
		{"longer than an int can say", frame.Number(nil, 1<<63), math.MaxInt, api.ErrLong},
		{"longest", frame.Number(nil, math.MaxUint64), math.MaxInt, api.ErrLong},
	} {
		if x, n, e := frame.ReadBytes(c.b, c.most); len(x) != 0 || n != 0 || e != c.want {
			t.Errorf("%s: % X, %d, %v; want %v", c.name, x, n, e, c.want)
		}
	}
}

func TestP106BytesAreReadAsWritten(t *testing.T) {
	for n := range 300 {
		x := noise(uint64(n), n)
		b := frame.Bytes(nil, x[:n/3], x[n/3:])
		got, took, e := frame.ReadBytes(append(bytes.Clone(b), 1, 2), n)
		if !bytes.Equal(got, x) || took != len(b) || e != api.OK {
			t.Errorf("%d bytes: %d bytes, %d, %v", n, len(got), took, e)
		}
	}
}
