package seg_test

import (
	"bytes"
	"encoding/binary"
	"hash/crc32"
	"math"
	"math/rand/v2"
	"slices"
	"testing"

	"flint/api"
	"flint/frame"
	"flint/rs"
	"flint/seg"
)

// noise tells n bytes that are the same ones for the same seed.
func noise(seed uint64, n int) []byte {
	r := rand.New(rand.NewPCG(seed, 9))
	b := make([]byte, n)
	for i := range b {
		b[i] = byte(r.Uint32())
	}
	return b
}

// rawPage is the page that chapter 1 tells, byte by byte.
func rawPage(size int, id uint64, row, shard int, payload []byte) []byte {
	p := make([]byte, 4, size)
	p = binary.LittleEndian.AppendUint64(p, id)
	p = binary.LittleEndian.AppendUint32(p, uint32(row))
	p = append(p, byte(shard))
	p = binary.LittleEndian.AppendUint16(p, uint16(len(payload)))
	p = append(p, payload...)
	p = append(p, make([]byte, size-len(p))...)
	binary.LittleEndian.PutUint32(p, crc32.Checksum(p[4:], crc32.MakeTable(crc32.Castagnoli)))
	return p
}

// product tells a product of the field that chapter 5 tells.
func product(a, b byte) byte {
	p := byte(0)
	for ; b != 0; b >>= 1 {
		if b&1 == 1 {
			p ^= a
		}
		carry := a >> 7
		a = a<<1 ^ carry*0x1D
	}
	return p
}

// parityOf tells the two that chapter 6 tells.
func parityOf(payloads [][]byte) [][]byte {
	p, q := make([]byte, len(payloads[0])), make([]byte, len(payloads[0]))
	power := byte(1)
	for _, payload := range payloads {
		for i, x := range payload {
			p[i] ^= x
			q[i] ^= product(power, x)
		}
		power = product(power, 2)
	}
	return [][]byte{p, q}
}

// rowOf tells what Pages must.
func rowOf(s seg.Shape, id uint64, row int, data []byte) [][]byte {
	payload := s.Page - 19
	data = append(bytes.Clone(data), make([]byte, s.K*payload-len(data))...)
	payloads := slices.Collect(slices.Chunk(data, payload))
	return rawRow(s, id, row, append(payloads, parityOf(payloads)...))
}

func rawRow(s seg.Shape, id uint64, row int, payloads [][]byte) [][]byte {
	var all [][]byte
	for shard, payload := range payloads {
		all = append(all, rawPage(s.Page, id, row, shard, payload))
	}
	return all
}

func equal(a, b [][]byte) bool {
	return slices.EqualFunc(a, b, bytes.Equal)
}

// is asks that a call answered these pages.
func is(t *testing.T, what string, got [][]byte, e api.Errno, want [][]byte) {
	t.Helper()
	if e != api.OK || len(got) != len(want) {
		t.Fatalf("%s: %d pages, %v; want %d", what, len(got), e, len(want))
	}
	for n := range want {
		if !bytes.Equal(got[n], want[n]) {
			t.Fatalf("%s: page %d: % x; want % x", what, n, got[n], want[n])
		}
	}
}

// fails asks that a call answered an error, and nothing beside it.
func fails(t *testing.T, what string, got [][]byte, e, want api.Errno) {
	t.Helper()
	if e != want || len(got) != 0 {
		t.Errorf("%s: %d pages, %v; want %v", what, len(got), e, want)
	}
}

func TestP902HeadsBytes(t *testing.T) {
	for _, c := range []struct {
		s       seg.Shape
		id      uint64
		payload []byte
	}{
		{small, 7, []byte{2, 3, 32}},
		{shape(1, 2, 32), 0, []byte{1, 2, 32}},
		{shape(32, 127, 128), 1, []byte{32, 127, 0x80, 1}},
		{shape(3, 128, 127), 1 << 40, []byte{3, 0x80, 1, 127}},
		{shape(4, 300, 4096), 5, []byte{4, 0xAC, 2, 0x80, 0x20}},
		{shape(32, 4096, 65536), math.MaxUint64, []byte{32, 0x80, 0x20, 0x80, 0x80, 4}},
	} {
		got, e := seg.Heads(c.s, c.id)
		is(t, "Heads", got, e, rawRow(c.s, c.id, 0, slices.Repeat([][]byte{c.payload}, c.s.K+2)))
	}
}

func TestP902HeadsAreRead(t *testing.T) {
	for _, s := range right {
		heads, e := seg.Heads(s, 1<<63+5)
		if e != api.OK || len(heads) != s.K+2 {
			t.Fatalf("Heads(%v): %d pages, %v", s, len(heads), e)
		}
		want := frame.Number(frame.Number(frame.Number(nil, uint64(s.K)), uint64(s.Pages)), uint64(s.Page))
		for shard, page := range heads {
			h, payload, e := frame.ReadPage(page)
			if e != api.OK || h != (api.Head{Segment: 1<<63 + 5, Shard: shard, Size: len(want)}) || !bytes.Equal(payload, want) {
				t.Errorf("%v, shard %d: %v, % x, %v", s, shard, h, payload, e)
			}
		}
	}
}

func TestP902HeadsOfNoShape(t *testing.T) {
	for _, s := range wrong() {
		got, e := seg.Heads(s, 1)
		fails(t, "Heads", got, e, api.ErrArg)
	}
}

func TestP902PagesBytes(t *testing.T) {
	s := shape(2, 3, 32)
	got, e := seg.Pages(s, 9, 2, []byte("thirteen byteand six"))
	is(t, "Pages", got, e, [][]byte{
		rawPage(32, 9, 2, 0, []byte("thirteen byte")),
		rawPage(32, 9, 2, 1, append([]byte("and six"), 0, 0, 0, 0, 0, 0)),
		rawPage(32, 9, 2, 2, []byte{'t' ^ 'a', 'h' ^ 'n', 'i' ^ 'd', 'r' ^ ' ', 't' ^ 's', 'e' ^ 'i', 'e' ^ 'x', 'n', ' ', 'b', 'y', 't', 'e'}),
		rawPage(32, 9, 2, 3, []byte{'t' ^ 'a'<<1, 'h' ^ 'n'<<1, 'i' ^ 'd'<<1, 'r' ^ ' '<<1, 't' ^ 's'<<1, 'e' ^ 'i'<<1, 'e' ^ 'x'<<1, 'n', ' ', 'b', 'y', 't', 'e'}),
	})
}

func TestP902PagesOfAnyData(t *testing.T) {
	for _, s := range []seg.Shape{small, shape(1, 2, 32), shape(1, 5, 33), shape(3, 7, 64), shape(32, 3, 32)} {
		for n := range seg.Row(s) + 1 {
			data := noise(uint64(n), n)
			row := 1 + n%(s.Pages-1)
			got, e := seg.Pages(s, uint64(n), row, data)
			is(t, "Pages", got, e, rowOf(s, uint64(n), row, data))
		}
	}
}

func TestP902PagesOfGreatShapes(t *testing.T) {
	for _, s := range []seg.Shape{shape(32, 4096, 65536), shape(1, 4096, 65536), shape(31, 4095, 4096)} {
		for _, row := range []int{1, s.Pages - 1} {
			for _, n := range []int{0, seg.Row(s) - 1, seg.Row(s)} {
				data := noise(uint64(n), n)
				got, e := seg.Pages(s, math.MaxUint64, row, data)
				if e != api.OK || !equal(got, rowOf(s, math.MaxUint64, row, data)) {
					t.Errorf("%v, row %d, %d bytes: other pages, %v", s, row, n, e)
				}
			}
		}
	}
}

// Each page of a row has a full payload, and a row's pages make up for any two of them.
func TestP902PagesMakeUpForTwo(t *testing.T) {
	s := shape(4, 3, 40)
	got, _ := seg.Pages(s, 3, 1, noise(3, 50))
	code, _ := rs.New(4)
	var payloads [][]byte
	for _, page := range got {
		h, payload, e := frame.ReadPage(page)
		if e != api.OK || h.Size != 21 {
			t.Fatalf("%v, %v", h, e)
		}
		payloads = append(payloads, payload)
	}
	for a := range payloads {
		for b := range payloads {
			bad := slices.Clone(payloads)
			bad[a], bad[b] = nil, nil
			if all, e := code.Rebuild(bad...); e != api.OK || !equal(all, payloads) {
				t.Errorf("without %d and %d: %v", a, b, e)
			}
		}
	}
}

func TestP902PagesOfNoRow(t *testing.T) {
	for _, s := range right {
		for _, row := range append(far, 0, s.Pages, s.Pages+1, 1<<30, 1<<32+1) {
			got, e := seg.Pages(s, 1, row, []byte("a"))
			fails(t, "Pages of no row", got, e, api.ErrArg)
		}
	}
}

func TestP902PagesOfTooMuch(t *testing.T) {
	for _, s := range []seg.Shape{small, shape(1, 2, 32), shape(32, 4096, 4096), shape(1, 2, 65536)} {
		for _, more := range []int{1, 2, seg.Row(s)} {
			got, e := seg.Pages(s, 1, 1, make([]byte, seg.Row(s)+more))
			fails(t, "Pages of too much", got, e, api.ErrLong)
		}
	}
}

func TestP902P6FirstErrors(t *testing.T) {
	long := make([]byte, 1000)
	got, e := seg.Pages(small, 1, 0, long)
	fails(t, "no row, too much", got, e, api.ErrArg)
	got, e = seg.Pages(small, 1, 3, long)
	fails(t, "past the rows, too much", got, e, api.ErrArg)
	for _, s := range wrong() {
		for _, row := range []int{-1, 0, 1, 2, 5000} {
			for _, data := range [][]byte{nil, []byte("a"), long} {
				got, e := seg.Pages(s, 1, row, data)
				fails(t, "Pages of no shape", got, e, api.ErrArg)
			}
		}
	}
}
