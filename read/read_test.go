package read_test

import (
	"bytes"
	"cmp"
	"math"
	"math/rand/v2"
	"slices"
	"testing"

	"flint/api"
	"flint/frame"
	"flint/read"
	"flint/seg"
)

// shape is one of K shards that hold bytes, each of so many pages, of page bytes each.
func shape(k, pages, page int) seg.Shape {
	return seg.Shape{K: k, Pages: pages, Page: page}
}

// small is the example's: rows of 26 bytes, two of them.
var small = shape(2, 3, 32)

// right are shapes that may be, small enough for whole segments to be made.
var right = []seg.Shape{
	small, shape(1, 2, 32), shape(1, 5, 40), shape(3, 4, 33), shape(32, 2, 32), shape(32, 3, 64), shape(5, 9, 128),
}

// far are numbers that are nobody's place.
var far = []int{-1, -2, -13, -26, math.MinInt32, math.MinInt + 1, math.MinInt, math.MaxInt - 1, math.MaxInt}

// wrong tells shapes that may not be.
func wrong() []seg.Shape {
	shapes := []seg.Shape{
		{}, shape(0, 3, 32), shape(33, 3, 32), shape(256+2, 3, 32),
		shape(2, 0, 32), shape(2, 1, 32), shape(2, 4097, 32), shape(2, 1<<32+3, 32),
		shape(2, 3, 0), shape(2, 3, 31), shape(2, 3, 65537), shape(2, 3, 1<<32+32),
	}
	for _, n := range far {
		shapes = append(shapes, shape(n, 3, 32), shape(2, n, 32), shape(2, 3, n))
	}
	return shapes
}

// noise tells n bytes that are the same ones for the same seed.
func noise(seed uint64, n int) []byte {
	r := rand.New(rand.NewPCG(seed, 10))
	b := make([]byte, n)
	for i := range b {
		b[i] = byte(r.Uint32())
	}
	return b
}

// spot is a page's place.
type spot struct {
	shard, row int
}

// A segment is a source that has one whole, but for what is bad; it notes which pages it was asked for.
type segment struct {
	s      seg.Shape
	id     uint64
	stream []byte
	pages  map[spot][]byte // as they were written
	bad    map[spot]int    // how a page is bad; 0 of one that is not
	asked  []spot
	buffer []byte // which all answers share, as a source may have them do
}

// newSegment tells one with noise.
func newSegment(t testing.TB, s seg.Shape, id uint64) *segment {
	t.Helper()
	g := &segment{s: s, id: id, stream: noise(id, seg.Room(s)), pages: map[spot][]byte{}, bad: map[spot]int{}}
	heads, e := seg.Heads(s, id)
	if e != api.OK {
		t.Fatal(e)
	}
	rows := [][][]byte{heads}
	for row := 1; row < s.Pages; row++ {
		pages, e := seg.Pages(s, id, row, g.stream[(row-1)*seg.Row(s):row*seg.Row(s)])
		if e != api.OK {
			t.Fatal(e)
		}
		rows = append(rows, pages)
	}
	for row, pages := range rows {
		for shard, page := range pages {
			g.pages[spot{shard, row}] = page
		}
	}
	return g
}

// Ways in which a page is bad.
const (
	unread    = 1 + iota // it is told as one that cannot be read, though its bytes are there
	none                 // it has no bytes
	rotten               // a bit of it is another one
	neighbour            // it is that of another shard
	elder                // it is that of another row
	foreign              // it is that of another segment
	cut                  // it ends too early
	ways
)

func (g *segment) Page(shard, row int) ([]byte, bool) {
	g.asked = append(g.asked, spot{shard, row})
	page, there := g.state(shard, row)
	g.buffer = append(g.buffer[:0], page...)
	return g.buffer, there
}

// state tells a page as it is now.
func (g *segment) state(shard, row int) ([]byte, bool) {
	page := g.pages[spot{shard, row}]
	switch g.bad[spot{shard, row}] {
	case unread:
		return page, false
	case none:
		return nil, true
	case rotten:
		page = bytes.Clone(page)
		page[(shard*7+row)%len(page)] ^= 1 << (row % 8)
	case neighbour:
		page = g.pages[spot{(shard + 1) % (g.s.K + 2), row}]
	case elder:
		page = g.pages[spot{shard, (row + 1) % g.s.Pages}]
	case foreign:
		h, payload, _ := frame.ReadPage(page)
		h.Segment++
		page, _ = frame.Page(g.s.Page, h, payload)
	case cut:
		page = page[:len(page)-1]
	}
	return page, true
}

// payload tells that of a page as it was written.
func (g *segment) payload(shard, row int) []byte {
	_, b, _ := frame.ReadPage(g.pages[spot{shard, row}])
	return b
}

// spoil makes pages of a row bad, in unlike ways; all others of that row are good then.
func (g *segment) spoil(row int, shards ...int) {
	for shard := range g.s.K + 2 {
		delete(g.bad, spot{shard, row})
	}
	for i, shard := range shards {
		g.bad[spot{shard, row}] = 1 + (shard*3+row+i)%(ways-1)
	}
}

// spoilt tells which of these pages are bad, by row, then shard.
func (g *segment) spoilt(spots []spot) []read.Bad {
	var bad []read.Bad
	for _, p := range spots {
		if g.bad[p] != 0 {
			bad = append(bad, read.Bad{Shard: p.shard, Row: p.row})
		}
	}
	slices.SortFunc(bad, func(a, b read.Bad) int {
		return cmp.Or(cmp.Compare(a.Row, b.Row), cmp.Compare(a.Shard, b.Shard))
	})
	return bad
}

// asks tells what was asked for since the last call.
func (g *segment) asks() []spot {
	asked := g.asked
	g.asked = nil
	return asked
}

// full tells the pages of a row, in order.
func (g *segment) full(row int) []spot {
	var all []spot
	for shard := range g.s.K + 2 {
		all = append(all, spot{shard, row})
	}
	return all
}

func equal(a, b [][]byte) bool {
	return slices.EqualFunc(a, b, bytes.Equal)
}

// page is a frame.Page that must be done.
func page(t *testing.T, size int, h api.Head, payload []byte) []byte {
	t.Helper()
	p, e := frame.Page(size, h, payload)
	if e != api.OK {
		t.Fatal(e)
	}
	return p
}

// numbers tells Numbers behind one another.
func numbers(l ...uint64) []byte {
	var b []byte
	for _, n := range l {
		b = frame.Number(b, n)
	}
	return b
}

func good(t *testing.T, what string, s seg.Shape, id uint64, shard, row int, page, want []byte) {
	t.Helper()
	if b, ok := read.Good(s, id, shard, row, page); !ok || !bytes.Equal(b, want) {
		t.Errorf("%s: %v, segment %d, shard %d, row %d: % x, %v; want % x", what, s, id, shard, row, b, ok, want)
	}
}

func notGood(t *testing.T, what string, s seg.Shape, id uint64, shard, row int, page []byte) {
	t.Helper()
	if b, ok := read.Good(s, id, shard, row, page); ok || len(b) != 0 {
		t.Errorf("%s: %v, segment %d, shard %d, row %d: % x, %v; want false", what, s, id, shard, row, b, ok)
	}
}

func TestP1001PagesOfSegmentsAreGood(t *testing.T) {
	for _, s := range right {
		for _, id := range []uint64{0, 1, 1<<40 + 3, math.MaxUint64} {
			g := newSegment(t, s, id)
			for p, page := range g.pages {
				want := numbers(uint64(s.K), uint64(s.Pages), uint64(s.Page))
				if p.row > 0 && p.shard < s.K {
					at := (p.row-1)*seg.Row(s) + p.shard*(s.Page-19)
					want = g.stream[at : at+s.Page-19]
				} else if p.row > 0 {
					want = g.payload(p.shard, p.row)
				}
				good(t, "page", s, id, p.shard, p.row, page, want)
			}
		}
	}
}

func TestP1001GreatPages(t *testing.T) {
	for _, s := range []seg.Shape{shape(32, 4096, 65536), shape(1, 4096, 65536), shape(31, 4095, 65535), shape(32, 4096, 32)} {
		heads, _ := seg.Heads(s, 9)
		last, _ := seg.Pages(s, 9, s.Pages-1, noise(9, seg.Row(s)))
		for shard := range s.K + 2 {
			_, payload, _ := frame.ReadPage(last[shard])
			good(t, "last row", s, 9, shard, s.Pages-1, last[shard], payload)
			good(t, "heads", s, 9, shard, 0, heads[shard], numbers(uint64(s.K), uint64(s.Pages), uint64(s.Page)))
			notGood(t, "last row as heads", s, 9, shard, 0, last[shard])
			notGood(t, "heads as last row", s, 9, shard, s.Pages-1, heads[shard])
		}
	}
}

func TestP1001AnotherPlace(t *testing.T) {
	g := newSegment(t, small, 7)
	for p, page := range g.pages {
		for row := range small.Pages {
			for shard := range small.K + 2 {
				if (spot{shard, row}) != p {
					notGood(t, "another place", small, 7, shard, row, page)
				}
			}
		}
		for _, id := range []uint64{0, 6, 8, 7 + 1<<32, math.MaxUint64} {
			notGood(t, "another segment", small, id, p.shard, p.row, page)
		}
		for _, n := range append(far, 256, 1<<32) {
			notGood(t, "another shard", small, 7, p.shard+n, p.row, page)
			notGood(t, "another row", small, 7, p.shard, p.row+n, page)
		}
	}
}

func TestP1001AnotherSize(t *testing.T) {
	g := newSegment(t, small, 7)
	for p, b := range g.pages {
		for _, size := range append(far, 0, 19, 31, 33, 64, 65536) {
			notGood(t, "shape of other pages", shape(2, 3, size), 7, p.shard, p.row, b)
		}
		for n := range b {
			notGood(t, "a front", small, 7, p.shard, p.row, b[:n])
		}
		notGood(t, "one byte more", small, 7, p.shard, p.row, append(bytes.Clone(b), 0))
		h, payload, _ := frame.ReadPage(b)
		notGood(t, "a greater page", small, 7, p.shard, p.row, page(t, 33, h, payload))
	}
	notGood(t, "no page", small, 7, 0, 0, nil)
	notGood(t, "no page", seg.Shape{}, 0, 0, 0, nil)
	notGood(t, "noughts", small, 0, 0, 0, make([]byte, 32))
	notGood(t, "noughts", small, 0, 0, 1, make([]byte, 32))
}

func TestP1001EachBit(t *testing.T) {
	g := newSegment(t, small, 7)
	for p, page := range g.pages {
		for bit := range 8 * len(page) {
			b := bytes.Clone(page)
			b[bit/8] ^= 1 << (bit % 8)
			notGood(t, "a bit is another one", small, 7, p.shard, p.row, b)
		}
	}
}

// Pages that chapter 1 takes, of the right place, but with payloads that no page of it has.
func TestP1001AnotherPayload(t *testing.T) {
	for n := range 13 {
		for row := 1; row < 3; row++ {
			h := api.Head{Segment: 7, Row: row, Shard: 1}
			notGood(t, "a short payload", small, 7, 1, row, page(t, 32, h, noise(1, n)))
			notGood(t, "a short payload of noughts", small, 7, 1, row, page(t, 32, h, make([]byte, n)))
		}
	}
	good(t, "a full payload of noughts", small, 7, 1, 2, page(t, 32, api.Head{Segment: 7, Row: 2, Shard: 1}, make([]byte, 13)), make([]byte, 13))
	for _, payload := range [][]byte{
		nil, numbers(2), numbers(2, 3), numbers(2, 3, 32, 0), numbers(2, 3, 32, 32), append(numbers(2, 3, 32), make([]byte, 10)...),
		numbers(1, 3, 32), numbers(3, 3, 32), numbers(2, 2, 32), numbers(2, 4, 32), numbers(2, 3, 33), numbers(2, 3, 64), numbers(3, 2, 32), numbers(32, 3, 2),
		{0x82, 0, 3, 32}, {2, 0x83, 0, 32}, {2, 3, 0xA0, 0}, {2, 3, 0xA0}, numbers(1<<32+2, 3, 32), numbers(2, 1<<32+3, 32), numbers(2, 3, 1<<32+32), {2, 3, ' ', ' '},
	} {
		notGood(t, "other heads", small, 7, 1, 0, page(t, 32, api.Head{Segment: 7, Shard: 1}, payload))
	}
	good(t, "heads", small, 7, 1, 0, page(t, 32, api.Head{Segment: 7, Shard: 1}, numbers(2, 3, 32)), []byte{2, 3, 32})
}

func TestP1001HeadsOfAnotherShape(t *testing.T) {
	g := newSegment(t, small, 7)
	for _, s := range []seg.Shape{shape(1, 3, 32), shape(3, 3, 32), shape(2, 2, 32), shape(2, 4, 32), shape(2, 4096, 32)} {
		for shard := range 4 {
			notGood(t, "heads of another shape", s, 7, shard, 0, g.pages[spot{shard, 0}])
		}
	}
}

func heads(t *testing.T, page []byte, id uint64, shard int, s seg.Shape) {
	t.Helper()
	gotId, gotShard, gotShape, e := read.Head(page)
	if e != api.OK || gotId != id || gotShard != shard || gotShape != s {
		t.Errorf("Head: %d, %d, %v, %v; want %d, %d, %v", gotId, gotShard, gotShape, e, id, shard, s)
	}
}

func headsNot(t *testing.T, what string, page []byte, want api.Errno) {
	t.Helper()
	if id, shard, s, e := read.Head(page); e != want || id != 0 || shard != 0 || s != (seg.Shape{}) {
		t.Errorf("%s: %d, %d, %v, %v; want %v", what, id, shard, s, e, want)
	}
}

func TestP1005Head(t *testing.T) {
	for _, s := range append(right, shape(32, 4096, 65536), shape(1, 2, 65536), shape(31, 4095, 65535), shape(32, 128, 4096)) {
		for _, id := range []uint64{0, 1, 1<<63 + 5, math.MaxUint64} {
			pages, e := seg.Heads(s, id)
			if e != api.OK {
				t.Fatal(e)
			}
			for shard, page := range pages {
				heads(t, page, id, shard, s)
			}
		}
	}
}

func TestP1005ErrorsOfPages(t *testing.T) {
	headsNot(t, "no page", nil, api.ErrArg)
	headsNot(t, "too small a page", make([]byte, 31), api.ErrArg)
	headsNot(t, "too great a page", make([]byte, 65537), api.ErrArg)
	headsNot(t, "noughts", make([]byte, 32), api.ErrSum)
	right := page(t, 32, api.Head{Segment: 7, Shard: 1}, numbers(2, 3, 32))
	for bit := range 8 * len(right) {
		b := bytes.Clone(right)
		b[bit/8] ^= 1 << (bit % 8)
		headsNot(t, "a bit is another one", b, api.ErrSum)
	}
	for n := range right {
		headsNot(t, "a front", right[:n], api.ErrArg)
	}
	headsNot(t, "one byte more", append(bytes.Clone(right), 0), api.ErrSum)
	long := bytes.Clone(right)
	long[31] = 1 // a byte behind the payload, with a sum that fits
	sum := frame.Sum(long[4:])
	for i := range 4 {
		long[i] = byte(sum >> (8 * i))
	}
	headsNot(t, "a byte behind the payload", long, api.ErrForm)
}

func TestP1005OtherRows(t *testing.T) {
	g := newSegment(t, small, 7)
	for p, b := range g.pages {
		if p.row > 0 {
			headsNot(t, "another row", b, api.ErrForm)
		}
	}
	for _, row := range []int{1, 2, 3, 1 << 30} {
		headsNot(t, "heads in another row", page(t, 32, api.Head{Segment: 7, Row: row}, numbers(2, 3, 32)), api.ErrForm)
	}
}

func TestP1005OtherPayloads(t *testing.T) {
	for _, payload := range [][]byte{
		nil, numbers(2), numbers(2, 3), numbers(2, 3, 32, 0), numbers(2, 3, 32, 1), append(numbers(2, 3, 32), make([]byte, 10)...), make([]byte, 13),
		numbers(0, 3, 32), numbers(33, 3, 32), numbers(2, 0, 32), numbers(2, 1, 32), numbers(2, 4097, 32), numbers(2, 3, 0), numbers(2, 3, 31), numbers(2, 3, 33), numbers(2, 3, 64), numbers(2, 3, 65536), numbers(2, 3, 65537), numbers(2, 32, 3),
		numbers(1<<32+2, 3, 32), numbers(2, 1<<32+3, 32), numbers(2, 3, 1<<32+32), numbers(math.MaxUint64, 3), numbers(2, math.MaxUint64), numbers(2, 3, math.MaxUint64), numbers(1<<63+2, 3),
		{0x82, 0, 3, 32}, {2, 0x83, 0, 32}, {2, 3, 0xA0, 0}, {2, 3, 0xA0}, bytes.Repeat([]byte{0xFF}, 13),
	} {
		headsNot(t, "other payload", page(t, 32, api.Head{Segment: 7}, payload), api.ErrForm)
	}
	headsNot(t, "a greater page", page(t, 33, api.Head{Segment: 7}, numbers(2, 3, 32)), api.ErrForm)
	heads(t, page(t, 33, api.Head{Segment: 7}, numbers(2, 3, 33)), 7, 0, shape(2, 3, 33))
}

func TestP1005Shards(t *testing.T) {
	for k := 1; k <= 32; k++ {
		for shard := range 256 {
			b := page(t, 32, api.Head{Segment: 7, Shard: shard}, numbers(uint64(k), 3, 32))
			if shard <= k+1 {
				heads(t, b, 7, shard, shape(k, 3, 32))
			} else {
				headsNot(t, "a shard too many", b, api.ErrForm)
			}
		}
	}
}
