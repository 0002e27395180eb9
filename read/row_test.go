package read_test

import (
	"math/rand/v2"
	"slices"
	"testing"

	"flint/api"
	"flint/read"
	"flint/seg"
)

// row asks that Row answers as the segment's row must be told, as it is now.
func (g *segment) row(t *testing.T, row int) {
	t.Helper()
	all := g.full(row)
	bad := g.spoilt(all)
	lost := len(bad) > 2
	if row == 0 {
		lost = len(bad) > g.s.K+1
	}
	got, gotBad, e := read.Row(g, g.s, g.id, row)
	if asked := g.asks(); !slices.Equal(asked, all) {
		t.Fatalf("%v, row %d, %v bad: asks for %v", g.s, row, bad, asked)
	}
	if lost {
		if e != api.ErrLost || len(got) != 0 || len(gotBad) != 0 {
			t.Fatalf("%v, row %d, %v bad: %d payloads, %v, %v; want lost", g.s, row, bad, len(got), gotBad, e)
		}
		return
	}
	var want [][]byte
	for shard := range g.s.K {
		want = append(want, g.payload(shard, row))
	}
	if e != api.OK || !equal(got, want) || !slices.Equal(gotBad, bad) {
		t.Fatalf("%v, row %d, %v bad: % x, %v, %v; want % x", g.s, row, bad, got, gotBad, e, want)
	}
}

// chosen tells the numbers of the bits that are set.
func chosen(set int) []int {
	var shards []int
	for shard := 0; set>>shard != 0; shard++ {
		if set>>shard&1 == 1 {
			shards = append(shards, shard)
		}
	}
	return shards
}

func TestP1002AnySetOfBadPages(t *testing.T) {
	for _, s := range []seg.Shape{small, shape(1, 2, 32), shape(1, 5, 40), shape(3, 4, 33), shape(5, 3, 128)} {
		g := newSegment(t, s, 7)
		for row := range s.Pages {
			for set := range 1 << (s.K + 2) {
				g.spoil(row, chosen(set)...)
				g.row(t, row)
			}
		}
	}
}

func TestP1002AnyTwoOfMany(t *testing.T) {
	s := shape(32, 2, 32)
	g := newSegment(t, s, 3)
	for a := range 34 {
		for b := range a {
			for row := range 2 {
				g.spoil(row, b, a)
				g.row(t, row)
				g.spoil(row, b, a, (a+7*b+1)%34)
				g.row(t, row)
			}
		}
	}
}

func TestP1002EachWayToBeBad(t *testing.T) {
	g := newSegment(t, shape(2, 4, 32), 5)
	for row := range 4 {
		for way := 1; way < ways; way++ {
			for _, shards := range [][]int{{0}, {1}, {3}, {0, 1}, {2, 3}, {0, 3}, {0, 1, 2}, {1, 2, 3}, {0, 1, 2, 3}} {
				g.spoil(row)
				for _, shard := range shards {
					g.bad[spot{shard, row}] = way
				}
				g.row(t, row)
			}
		}
	}
}

// Of row 0 one page that is Good is enough, whichever.
func TestP1002RowOfHeads(t *testing.T) {
	for _, s := range right {
		g := newSegment(t, s, 8)
		for last := range s.K + 2 {
			var others []int
			for shard := range s.K + 2 {
				if shard != last {
					others = append(others, shard)
				}
			}
			g.spoil(0, others...)
			g.row(t, 0)
		}
		g.spoil(0, g.everyShard()...)
		g.row(t, 0)
	}
}

func (g *segment) everyShard() []int {
	var all []int
	for shard := range g.s.K + 2 {
		all = append(all, shard)
	}
	return all
}

func TestP1002OtherRowsDoNotMatter(t *testing.T) {
	g := newSegment(t, shape(2, 4, 32), 5)
	for row := range 4 {
		if row != 2 {
			g.spoil(row, 0, 1, 2, 3)
		}
	}
	g.row(t, 2)
	g.spoil(2, 1, 2)
	g.row(t, 2)
}

func TestP1002GreatRows(t *testing.T) {
	s := shape(32, 4096, 65536)
	pages, e := seg.Pages(s, 1, 4095, noise(1, seg.Row(s)))
	if e != api.OK {
		t.Fatal(e)
	}
	g := &segment{s: s, id: 1, pages: map[spot][]byte{}, bad: map[spot]int{}}
	for shard, page := range pages {
		g.pages[spot{shard, 4095}] = page
	}
	g.row(t, 4095)
	g.spoil(4095, 0, 31)
	g.row(t, 4095)
	g.spoil(4095, 5, 32, 33)
	g.row(t, 4095)
}

func (g *segment) rowNot(t *testing.T, s seg.Shape, row int) {
	t.Helper()
	got, bad, e := read.Row(g, s, g.id, row)
	if e != api.ErrArg || len(got) != 0 || len(bad) != 0 || len(g.asks()) != 0 {
		t.Errorf("Row of %v, %d: %d payloads, %v, %v; want arg", s, row, len(got), bad, e)
	}
}

func TestP1002WhatMayNotBe(t *testing.T) {
	g := newSegment(t, small, 7)
	for _, row := range append(far, 3, 4, 1<<30, 1<<32, 1<<32+1) {
		g.rowNot(t, small, row)
	}
	for _, s := range wrong() {
		for _, row := range append(far, 0, 1, 2) {
			g.rowNot(t, s, row)
		}
	}
	g.row(t, 0)
	g.row(t, 2)
}

// rebuilds asks that Rebuild answers as it must, as the segment is now.
func (g *segment) rebuilds(t *testing.T, shard, row int) {
	t.Helper()
	others := slices.DeleteFunc(g.full(row), func(p spot) bool { return p.shard == shard })
	bad := g.spoilt(others)
	got, e := read.Rebuild(g, g.s, g.id, shard, row)
	asked := g.asks()
	if row == 0 && len(asked) > 0 {
		t.Fatalf("row 0: asks for %v", asked)
	}
	for i, p := range asked {
		if !slices.Contains(others, p) || slices.Contains(asked[:i], p) {
			t.Fatalf("%v, shard %d of row %d: asks for %v", g.s, shard, row, asked)
		}
	}
	if row > 0 && len(bad) > 1 {
		if e != api.ErrLost || len(got) != 0 {
			t.Fatalf("%v, shard %d of row %d, %v bad: % x, %v; want lost", g.s, shard, row, bad, got, e)
		}
		return
	}
	if want := g.pages[spot{shard, row}]; e != api.OK || string(got) != string(want) {
		t.Fatalf("%v, shard %d of row %d, %v bad: % x, %v; want % x", g.s, shard, row, bad, got, e, want)
	}
}

func TestP1004AnySetOfBadPages(t *testing.T) {
	for _, s := range []seg.Shape{small, shape(1, 2, 32), shape(1, 5, 40), shape(3, 4, 33), shape(5, 3, 128)} {
		g := newSegment(t, s, 7)
		for row := range s.Pages {
			for set := range 1 << (s.K + 2) {
				g.spoil(row, chosen(set)...)
				for shard := range s.K + 2 {
					g.rebuilds(t, shard, row)
				}
			}
		}
	}
}

func TestP1004AnyTwoOfMany(t *testing.T) {
	s := shape(32, 2, 32)
	g := newSegment(t, s, 3)
	for a := range 34 {
		for b := range 34 {
			g.spoil(1, a, b)
			g.rebuilds(t, a, 1)
			g.rebuilds(t, (a+b)%34, 1)
			g.rebuilds(t, a, 0)
		}
	}
}

func (g *segment) rebuildsNot(t *testing.T, s seg.Shape, shard, row int) {
	t.Helper()
	got, e := read.Rebuild(g, s, g.id, shard, row)
	if e != api.ErrArg || len(got) != 0 || len(g.asks()) != 0 {
		t.Errorf("Rebuild of %v, %d, %d: % x, %v; want arg", s, shard, row, got, e)
	}
}

func TestP1004WhatMayNotBe(t *testing.T) {
	g := newSegment(t, small, 7)
	for _, row := range append(far, 3, 4, 1<<30, 1<<32, 1<<32+1) {
		g.rebuildsNot(t, small, 0, row)
		g.rebuildsNot(t, small, 9, row)
	}
	for _, shard := range append(far, 4, 5, 33, 256, 1<<32) {
		for row := range 3 {
			g.rebuildsNot(t, small, shard, row)
		}
	}
	for _, s := range wrong() {
		for _, n := range append(far, 0, 1, 2) {
			g.rebuildsNot(t, s, 0, n)
			g.rebuildsNot(t, s, n, 1)
		}
	}
	g.spoil(1, 0, 1, 2, 3)
	g.rebuildsNot(t, small, 4, 1)
	g.rebuilds(t, 0, 1)
	g.rebuilds(t, 3, 2)
}

// Bytes are told, and each page that is bad is made anew, as it was.
func TestP1006AnyTwoOfEachRow(t *testing.T) {
	for seed := range uint64(300) {
		r := rand.New(rand.NewPCG(seed, 1006))
		s := shape(1+r.IntN(8), 2+r.IntN(6), 32+r.IntN(30))
		g := newSegment(t, s, seed)
		for row := range s.Pages {
			g.spoil(row, r.Perm(s.K + 2)[:r.IntN(3)]...)
		}
		n := seg.Room(s)
		b, bad, e := read.Bytes(g, s, seed, 0, n)
		if asked := g.asks(); e != api.OK || string(b) != string(g.stream) || !slices.Equal(bad, g.spoilt(asked)) {
			t.Fatalf("seed %d: %v, %v, or other bytes", seed, bad, e)
		}
		for p := range g.bad {
			g.rebuilds(t, p.shard, p.row)
		}
	}
}

func TestP1006MoreOfARow(t *testing.T) {
	for seed := range uint64(300) {
		r := rand.New(rand.NewPCG(seed, 6001))
		s := shape(1+r.IntN(8), 2+r.IntN(6), 32+r.IntN(30))
		g := newSegment(t, s, seed)
		row := 1 + r.IntN(s.Pages-1)
		g.spoil(row, r.Perm(s.K + 2)[:3+r.IntN(s.K)]...)
		if b, bad, e := read.Bytes(g, s, seed, 0, seg.Room(s)); e != api.ErrLost || len(b) != 0 || len(bad) != 0 {
			t.Fatalf("seed %d: %d bytes, %v, %v; want lost", seed, len(b), bad, e)
		}
		g.asks()
		g.row(t, row)
		for shard := range s.K + 2 {
			g.rebuilds(t, shard, row)
		}
	}
}
