package read_test

import (
	"bytes"
	"math"
	"slices"
	"testing"

	"flint/api"
	"flint/read"
	"flint/seg"
)

// plain is a source that tells its own memory, with spare room behind each page.
type plain map[spot][]byte

func (p plain) Page(shard, row int) ([]byte, bool) {
	page, there := p[spot{shard, row}]
	return page, there
}

// plainOf tells one of a segment, without its bad pages.
func plainOf(g *segment) plain {
	p := plain{}
	for at, page := range g.pages {
		if g.bad[at] == 0 {
			p[at] = roomy(page)
		}
	}
	return p
}

// roomy tells b with spare room behind it.
func roomy(b []byte) []byte {
	return append(make([]byte, 0, len(b)+100), b...)
}

// scribble changes each byte of b, and of its spare room.
func scribble(b []byte) {
	b = b[:cap(b)]
	for i := range b {
		b[i] ^= 0xA5
	}
}

// is asks that a source's pages, with their spare room, are as they were.
func (p plain) is(t *testing.T, what string, was plain) {
	t.Helper()
	for at, page := range p {
		if !bytes.Equal(page[:cap(page)], was[at][:cap(was[at])]) {
			t.Fatalf("%s: changes page %v", what, at)
		}
	}
}

func TestP1AnyNumbers(t *testing.T) {
	g := newSegment(t, small, 7)
	numbers := []int{math.MinInt, math.MinInt32, -1, 0, 1, 2, 3, 4, 5, 32, 33, 51, 52, 53, 4096, 65536, math.MaxInt32, math.MaxInt}
	for _, a := range numbers {
		for _, b := range numbers {
			for _, s := range append(wrong(), small, shape(32, 4096, 65536), shape(1, 2, 32)) {
				for _, page := range [][]byte{nil, make([]byte, 32), g.pages[spot{1, 0}], g.pages[spot{1, 1}]} {
					read.Good(s, 7, a, b, page)
				}
				read.Rebuild(g, s, 7, a, b)
			}
			read.Bytes(g, small, 7, a, b)
		}
		read.Row(g, small, 7, a)
	}
}

func TestP1AnyPages(t *testing.T) {
	for seed := range uint64(2000) {
		b := noise(seed, int(seed%70))
		for shard := range 3 {
			if _, ok := read.Good(shape(2, 3, len(b)), 7, shard, 1, b); ok {
				t.Errorf("seed %d: noise is Good", seed)
			}
		}
		if _, _, _, e := read.Head(b); e == api.OK {
			t.Errorf("seed %d: noise is a head", seed)
		}
	}
}

func TestP2PagesAreNotChangedOrKept(t *testing.T) {
	g := newSegment(t, small, 7)
	for p, page := range g.pages {
		b := roomy(page)
		was := bytes.Clone(b[:cap(b)])
		payload, ok := read.Good(small, 7, p.shard, p.row, b)
		read.Head(b)
		if !ok || !bytes.Equal(b[:cap(b)], was) {
			t.Fatalf("%v, or Good or Head changes what it is handed", ok)
		}
		scribble(payload)
		if !bytes.Equal(b[:cap(b)], was) {
			t.Fatalf("Good answers what it was handed")
		}
	}
}

// What is answered may be changed, and a source's memory stays as it is; what a source does with its pages then changes no answer.
func TestP2AnswersAreNewMemory(t *testing.T) {
	for set := range 16 {
		g := newSegment(t, small, 7)
		g.spoil(0, chosen(set)...)
		g.spoil(1, chosen(set)...)
		g.spoil(2, chosen(set)...)
		src, was := plainOf(g), plainOf(g)
		for row := range 3 {
			payloads, _, _ := read.Row(src, small, 7, row)
			for i, b := range payloads {
				rest := slices.Delete(slices.Clone(payloads), i, i+1)
				want := copied(rest)
				scribble(b)
				if !equal(rest, want) {
					t.Fatalf("row %d: payload %d shares memory with another one", row, i)
				}
			}
			src.is(t, "Row", was)
			for shard := range 4 {
				b, _ := read.Rebuild(src, small, 7, shard, row)
				scribble(b)
				src.is(t, "Rebuild", was)
			}
		}
		for _, c := range [][2]int{{0, 1}, {0, 13}, {0, 26}, {13, 13}, {0, 52}, {20, 20}} {
			b, _, _ := read.Bytes(src, small, 7, c[0], c[1])
			scribble(b)
			src.is(t, "Bytes", was)
			b, _, e := read.Bytes(src, small, 7, c[0], c[1])
			for _, page := range src {
				scribble(page)
			}
			if e == api.OK && !bytes.Equal(b, g.stream[c[0]:c[0]+c[1]]) {
				t.Fatalf("Bytes answers a source's memory")
			}
			for _, page := range src {
				scribble(page)
			}
		}
	}
}

// copied tells lists that are as these are.
func copied(lists [][]byte) [][]byte {
	var out [][]byte
	for _, b := range lists {
		out = append(out, bytes.Clone(b))
	}
	return out
}

func TestP3SameCallsSameAnswers(t *testing.T) {
	for set := range 16 {
		g := newSegment(t, small, 7)
		g.spoil(1, chosen(set)...)
		src := plainOf(g)
		first, bad, e := read.Bytes(src, small, 7, 5, 40)
		rows, badToo, f := read.Row(src, small, 7, 1)
		page, h := read.Rebuild(src, small, 7, 2, 1)
		for range 3 {
			b, more, x := read.Bytes(src, small, 7, 5, 40)
			if !bytes.Equal(b, first) || !slices.Equal(more, bad) || x != e {
				t.Fatalf("Bytes: %v, %v; %v, %v", bad, e, more, x)
			}
			others, more, x := read.Row(src, small, 7, 1)
			if !equal(others, rows) || !slices.Equal(more, badToo) || x != f {
				t.Fatalf("Row: %v, %v; %v, %v", badToo, f, more, x)
			}
			if b, x := read.Rebuild(src, small, 7, 2, 1); !bytes.Equal(b, page) || x != h {
				t.Fatalf("Rebuild: %v; %v", h, x)
			}
		}
	}
}

// Another segment's source, another id: nothing is told of it but row 0's pages, which are made of nothing.
func TestP4P5AnotherSegment(t *testing.T) {
	g := newSegment(t, small, 7)
	src := plainOf(g)
	for row := range 3 {
		if payloads, bad, e := read.Row(src, small, 8, row); e != api.ErrLost || len(payloads) != 0 || len(bad) != 0 {
			t.Errorf("Row: %d payloads, %v, %v; want lost", len(payloads), bad, e)
		}
	}
	if b, bad, e := read.Bytes(src, small, 8, 0, 52); e != api.ErrLost || len(b) != 0 || len(bad) != 0 {
		t.Errorf("Bytes: %d, %v, %v; want lost", len(b), bad, e)
	}
	if b, e := read.Rebuild(src, small, 8, 0, 1); e != api.ErrLost || len(b) != 0 {
		t.Errorf("Rebuild: %d, %v; want lost", len(b), e)
	}
	want, _ := seg.Heads(small, 8)
	if b, e := read.Rebuild(src, small, 8, 3, 0); e != api.OK || !bytes.Equal(b, want[3]) {
		t.Errorf("Rebuild of row 0: % x, %v", b, e)
	}
}
