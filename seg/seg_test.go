package seg_test

import (
	"math"
	"testing"

	"flint/api"
	"flint/seg"
)

// shape is one of K shards that hold bytes, each of so many pages, of page bytes each.
func shape(k, pages, page int) seg.Shape {
	return seg.Shape{K: k, Pages: pages, Page: page}
}

// small is the example's: rows of 26 bytes, two of them.
var small = shape(2, 3, 32)

// right are shapes that may be, those at the bounds among them.
var right = []seg.Shape{
	small, shape(1, 2, 32), shape(32, 2, 32), shape(1, 4096, 32), shape(1, 2, 65536),
	shape(32, 4096, 65536), shape(3, 7, 33), shape(5, 64, 512), shape(31, 4095, 65535),
}

// far are numbers that are nobody's place.
var far = []int{-1, -2, -13, -26, math.MinInt32, math.MinInt + 1, math.MinInt, math.MaxInt - 1, math.MaxInt}

// wrong tells shapes that may not be.
func wrong() []seg.Shape {
	shapes := []seg.Shape{
		{}, shape(0, 3, 32), shape(33, 3, 32), shape(34, 3, 32), shape(256+2, 3, 32),
		shape(2, 0, 32), shape(2, 1, 32), shape(2, 4097, 32), shape(2, 1<<32+3, 32),
		shape(2, 3, 0), shape(2, 3, 19), shape(2, 3, 31), shape(2, 3, 65537), shape(2, 3, 1<<17),
		shape(0, 1, 31), shape(33, 4097, 65537),
	}
	for _, n := range far {
		shapes = append(shapes, shape(n, 3, 32), shape(2, n, 32), shape(2, 3, n), shape(n, n, n))
	}
	return shapes
}

func TestP901Check(t *testing.T) {
	for _, s := range right {
		if e := seg.Check(s); e != api.OK {
			t.Errorf("Check(%v): %v", s, e)
		}
	}
	for _, s := range wrong() {
		if e := seg.Check(s); e != api.ErrArg {
			t.Errorf("Check(%v): %v; want arg", s, e)
		}
	}
}

func TestP901RowAndRoom(t *testing.T) {
	for _, c := range []struct {
		s         seg.Shape
		row, room int
	}{
		{small, 26, 52},
		{shape(1, 2, 32), 13, 13},
		{shape(32, 2, 32), 416, 416},
		{shape(1, 4096, 32), 13, 13 * 4095},
		{shape(3, 7, 33), 42, 252},
		{shape(2, 5, 4096), 8154, 32616},
		{shape(1, 2, 65536), 65517, 65517},
		{shape(32, 4096, 65536), 32 * 65517, 32 * 65517 * 4095},
	} {
		if row, room := seg.Row(c.s), seg.Room(c.s); row != c.row || room != c.room {
			t.Errorf("%v: Row %d, Room %d; want %d, %d", c.s, row, room, c.row, c.room)
		}
	}
	for _, s := range wrong() {
		if row, room := seg.Row(s), seg.Room(s); row != 0 || room != 0 {
			t.Errorf("%v: Row %d, Room %d; want 0", s, row, room)
		}
	}
}

// place is where a byte is.
type place struct {
	row, shard, off int
}

// at asks one Where.
func at(t *testing.T, s seg.Shape, n int, want place) {
	t.Helper()
	row, shard, off, e := seg.Where(s, n)
	if got := (place{row, shard, off}); got != want || e != api.OK {
		t.Fatalf("Where(%v, %d): %v, %v; want %v", s, n, got, e, want)
	}
}

func TestP903WhereExample(t *testing.T) {
	at(t, small, 30, place{2, 0, 4})
}

func TestP903Where(t *testing.T) {
	for _, s := range []seg.Shape{small, shape(1, 2, 32), shape(1, 9, 34), shape(32, 3, 32), shape(3, 7, 33), shape(5, 4, 64)} {
		n := 0
		for row := 1; row < s.Pages; row++ {
			for shard := range s.K {
				for off := range s.Page - 19 {
					at(t, s, n, place{row, shard, off})
					n++
				}
			}
		}
		if n != seg.Room(s) {
			t.Errorf("%v: %d bytes; Room %d", s, n, seg.Room(s))
		}
	}
}

func TestP903WhereOfGreatShapes(t *testing.T) {
	for _, s := range right {
		payload := s.Page - 19
		at(t, s, 0, place{1, 0, 0})
		at(t, s, seg.Row(s)-1, place{1, s.K - 1, payload - 1})
		at(t, s, seg.Room(s)-seg.Row(s), place{s.Pages - 1, 0, 0})
		at(t, s, seg.Room(s)-1, place{s.Pages - 1, s.K - 1, payload - 1})
	}
}

// nowhere asks that Where answers an error, and nothing beside it.
func nowhere(t *testing.T, s seg.Shape, n int) {
	t.Helper()
	row, shard, off, e := seg.Where(s, n)
	if row != 0 || shard != 0 || off != 0 || e != api.ErrArg {
		t.Errorf("Where(%v, %d): %d, %d, %d, %v; want arg", s, n, row, shard, off, e)
	}
}

func TestP903WhereOfWhatMayNotBe(t *testing.T) {
	for _, s := range right {
		for _, n := range append(far, seg.Room(s), seg.Room(s)+1, seg.Room(s)+seg.Row(s)) {
			nowhere(t, s, n)
		}
	}
	for _, s := range wrong() {
		for _, n := range append(far, 0, 1, 13) {
			nowhere(t, s, n)
		}
	}
}

// spans asks one Span.
func spans(t *testing.T, s seg.Shape, at, n, first, last int) {
	t.Helper()
	f, l, e := seg.Span(s, at, n)
	if f != first || l != last || e != api.OK {
		t.Fatalf("Span(%v, %d, %d): %d, %d, %v; want %d, %d", s, at, n, f, l, e, first, last)
	}
}

// spansNot asks that Span answers an error, and nothing beside it.
func spansNot(t *testing.T, s seg.Shape, at, n int) {
	t.Helper()
	f, l, e := seg.Span(s, at, n)
	if f != 0 || l != 0 || e != api.ErrArg {
		t.Errorf("Span(%v, %d, %d): %d, %d, %v; want arg", s, at, n, f, l, e)
	}
}

func TestP903Span(t *testing.T) {
	spans(t, small, 0, 1, 1, 1)
	spans(t, small, 0, 26, 1, 1)
	spans(t, small, 0, 27, 1, 2)
	spans(t, small, 25, 1, 1, 1)
	spans(t, small, 25, 2, 1, 2)
	spans(t, small, 26, 1, 2, 2)
	spans(t, small, 26, 26, 2, 2)
	spans(t, small, 0, 52, 1, 2)
	spans(t, small, 51, 1, 2, 2)
}

func TestP903SpanIsWhereOfBothEnds(t *testing.T) {
	for _, s := range []seg.Shape{small, shape(1, 2, 32), shape(1, 7, 32), shape(3, 5, 33)} {
		room := seg.Room(s)
		for at := range room + 2 {
			for n := range room + 3 {
				if n < 1 || at+n > room {
					spansNot(t, s, at, n)
					continue
				}
				first, _, _, _ := seg.Where(s, at)
				last, _, _, _ := seg.Where(s, at+n-1)
				spans(t, s, at, n, first, last)
			}
		}
	}
}

func TestP903SpanOfGreatShapes(t *testing.T) {
	for _, s := range right {
		spans(t, s, 0, seg.Room(s), 1, s.Pages-1)
		spans(t, s, seg.Room(s)-1, 1, s.Pages-1, s.Pages-1)
		spans(t, s, 0, seg.Row(s), 1, 1)
		spansNot(t, s, 0, seg.Room(s)+1)
		spansNot(t, s, seg.Room(s)-1, 2)
		spansNot(t, s, seg.Room(s), 1)
	}
}

func TestP903SpanOfWhatMayNotBe(t *testing.T) {
	numbers := append(far, 0, 1, 2, 51, 52, 53)
	for _, at := range numbers {
		for _, n := range numbers {
			if at < 0 || n < 1 || at > 51 || n > 52-at {
				spansNot(t, small, at, n)
			}
		}
	}
	for _, s := range wrong() {
		for _, n := range numbers {
			spansNot(t, s, 0, n)
			spansNot(t, s, n, 1)
			spansNot(t, s, n, n)
		}
	}
}
