package read_test

import (
	"bytes"
	"math"
	"math/rand/v2"
	"slices"
	"testing"

	"flint/api"
	"flint/read"
	"flint/seg"
)

// due tells what Bytes must ask for, as the segment is now, and whether the bytes are lost.
func (g *segment) due(at, n int) ([]spot, bool) {
	var asked []spot
	for row := 1; row < g.s.Pages; row++ {
		var held []spot
		for shard := range g.s.K {
			page := (row-1)*seg.Row(g.s) + shard*(g.s.Page-19)
			if at < page+g.s.Page-19 && page < at+n {
				held = append(held, spot{shard, row})
			}
		}
		asked = append(asked, held...)
		if len(g.spoilt(held)) == 0 {
			continue
		}
		for _, p := range g.full(row) {
			if !slices.Contains(held, p) {
				asked = append(asked, p)
			}
		}
		if len(g.spoilt(g.full(row))) > 2 {
			return asked, true
		}
	}
	return asked, false
}

// bytes asks that Bytes answers as it must, as the segment is now.
func (g *segment) bytes(t *testing.T, at, n int) {
	t.Helper()
	want, lost := g.due(at, n)
	b, bad, e := read.Bytes(g, g.s, g.id, at, n)
	if asked := g.asks(); !slices.Equal(asked, want) {
		t.Fatalf("%v, %d from %d on: asks for %v; want %v", g.s, n, at, asked, want)
	}
	if lost {
		if e != api.ErrLost || len(b) != 0 || len(bad) != 0 {
			t.Fatalf("%v, %d from %d on: %d bytes, %v, %v; want lost", g.s, n, at, len(b), bad, e)
		}
		return
	}
	if e != api.OK || !bytes.Equal(b, g.stream[at:at+n]) || !slices.Equal(bad, g.spoilt(want)) {
		t.Fatalf("%v, %d from %d on: % x, %v, %v; want % x, %v", g.s, n, at, b, bad, e, g.stream[at:at+n], g.spoilt(want))
	}
}

func TestP1003Example(t *testing.T) {
	g := newSegment(t, small, 7)
	g.spoil(1, 0)
	b, bad, e := read.Bytes(g, small, 7, 0, 1)
	if e != api.OK || !bytes.Equal(b, g.stream[:1]) || !slices.Equal(bad, []read.Bad{{Shard: 0, Row: 1}}) {
		t.Errorf("% x, %v, %v", b, bad, e)
	}
	if asked := g.asks(); !slices.Equal(asked, []spot{{0, 1}, {1, 1}, {2, 1}, {3, 1}}) {
		t.Errorf("asks for %v", asked)
	}
}

func TestP1003AllPlaces(t *testing.T) {
	for _, s := range []seg.Shape{small, shape(1, 2, 32), shape(1, 7, 32), shape(3, 4, 33)} {
		g := newSegment(t, s, 7)
		for at := range seg.Room(s) {
			for n := 1; n <= seg.Room(s)-at; n++ {
				g.bytes(t, at, n)
			}
		}
	}
}

// Each set of bad pages, with some bytes of each.
func TestP1003AnySetOfBadPages(t *testing.T) {
	g := newSegment(t, small, 7)
	for first := range 16 {
		for second := range 16 {
			g.spoil(1, chosen(first)...)
			g.spoil(2, chosen(second)...)
			for _, at := range []int{0, 1, 12, 13, 14, 25, 26, 27, 38, 39, 51} {
				for _, n := range []int{1, 2, 12, 13, 14, 25, 26, 27, 28, 39, 40, 52} {
					if n <= 52-at {
						g.bytes(t, at, n)
					}
				}
			}
		}
	}
}

func TestP1003EachWayToBeBad(t *testing.T) {
	g := newSegment(t, shape(4, 3, 32), 5)
	for way := 1; way < ways; way++ {
		for set := range 1 << 6 {
			g.spoil(1)
			for _, shard := range chosen(set) {
				g.bad[spot{shard, 1}] = way
			}
			for _, c := range [][2]int{{0, 1}, {15, 30}, {0, 52}, {51, 1}, {51, 2}, {40, 64}, {52, 52}} {
				g.bytes(t, c[0], c[1])
			}
		}
	}
}

func TestP1003AnySegments(t *testing.T) {
	for seed := range uint64(300) {
		r := rand.New(rand.NewPCG(seed, 1003))
		s := shape(1+r.IntN(10), 2+r.IntN(8), 32+r.IntN(40))
		g := newSegment(t, s, seed)
		for row := range s.Pages {
			if r.IntN(2) == 0 {
				g.spoil(row, r.Perm(s.K + 2)[:r.IntN(min(5, s.K+3))]...)
			}
		}
		for range 40 {
			at := r.IntN(seg.Room(s))
			g.bytes(t, at, 1+r.IntN(seg.Room(s)-at))
			g.bytes(t, at, 1+r.IntN(min(seg.Room(s)-at, 2*s.Page)))
		}
	}
}

// What is bad of pages that nobody asks for does not matter, not even if the row would be lost.
func TestP1003OtherPagesDoNotMatter(t *testing.T) {
	g := newSegment(t, shape(4, 3, 32), 5)
	g.spoil(0, 0, 1, 2, 3, 4, 5)
	g.spoil(2, 0, 1, 2, 3, 4, 5)
	g.spoil(1, 0, 2, 3, 4, 5)
	for n := 1; n <= 13; n++ {
		g.bytes(t, 13, n)
	}
	g.bytes(t, 12, 2)
	g.bytes(t, 25, 2)
}

// All but the last bytes may be there: what is lost is told without them.
func TestP1003LostAtTheEnd(t *testing.T) {
	g := newSegment(t, shape(2, 9, 32), 5)
	g.spoil(3, 0)
	g.spoil(8, 1, 2, 3)
	g.bytes(t, 0, seg.Room(g.s))
	g.bytes(t, 0, seg.Room(g.s)-13)
}

// nothing is a source that has no page.
type nothing int

func (n *nothing) Page(shard, row int) ([]byte, bool) {
	*n++
	return nil, false
}

// More may be lost than there is memory for.
func TestP1003AllIsLost(t *testing.T) {
	s := shape(32, 4096, 65536)
	var asked nothing
	if b, bad, e := read.Bytes(&asked, s, 1, 0, seg.Room(s)); e != api.ErrLost || len(b) != 0 || len(bad) != 0 || asked != 34 {
		t.Errorf("%d bytes, %v, %v, asked %d times", len(b), bad, e, asked)
	}
}

func TestP1003WhatMayNotBe(t *testing.T) {
	g := newSegment(t, small, 7)
	not := func(s seg.Shape, at, n int) {
		t.Helper()
		b, bad, e := read.Bytes(g, s, 7, at, n)
		if e != api.ErrArg || len(b) != 0 || len(bad) != 0 || len(g.asks()) != 0 {
			t.Errorf("%v, %d from %d on: %d bytes, %v, %v; want arg", s, n, at, len(b), bad, e)
		}
	}
	numbers := append(far, 0, 1, 2, 51, 52, 53, math.MaxInt32, math.MaxInt-51)
	for _, at := range numbers {
		for _, n := range numbers {
			if at < 0 || n < 1 || at > 51 || n > 52-at {
				not(small, at, n)
			}
		}
	}
	for _, s := range wrong() {
		for _, n := range numbers {
			not(s, 0, n)
			not(s, n, 1)
			not(s, n, n)
		}
	}
	g.bytes(t, 0, 52)
}
