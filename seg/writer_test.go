package seg_test

import (
	"bytes"
	"math/rand/v2"
	"slices"
	"testing"

	"flint/api"
	"flint/seg"
)

// writer is a NewWriter that must be done.
func writer(t *testing.T, s seg.Shape, id uint64) *seg.Writer {
	t.Helper()
	w, e := seg.NewWriter(s, id)
	if e != api.OK || w == nil {
		t.Fatalf("NewWriter(%v, %d): %v", s, id, e)
	}
	return w
}

// A pair is a writer, and what it must be: a stream, and how many of its rows were told.
type pair struct {
	w      *seg.Writer
	s      seg.Shape
	id     uint64
	stream []byte
	told   int
}

func newPair(t *testing.T, s seg.Shape, id uint64) *pair {
	t.Helper()
	p := &pair{w: writer(t, s, id), s: s, id: id}
	p.check(t)
	return p
}

// check asks how many bytes there are.
func (p *pair) check(t *testing.T) {
	t.Helper()
	if size, left := p.w.Size(), p.w.Left(); size != len(p.stream) || left != seg.Room(p.s)-len(p.stream) {
		t.Fatalf("Size %d, Left %d; want %d, %d", size, left, len(p.stream), seg.Room(p.s)-len(p.stream))
	}
}

// due tells the rows that are whole and were not told, which are told by that.
func (p *pair) due() [][][]byte {
	var rows [][][]byte
	for row := seg.Row(p.s); (p.told+1)*row <= len(p.stream); p.told++ {
		rows = append(rows, rowOf(p.s, p.id, p.told+1, p.stream[p.told*row:(p.told+1)*row]))
	}
	return rows
}

// add does one Add that must be done.
func (p *pair) add(t *testing.T, blob []byte) [][][]byte {
	t.Helper()
	want := len(p.stream)
	at, rows, e := p.w.Add(blob)
	if at != want || e != api.OK {
		t.Fatalf("Add of %d bytes: %d, %v; want %d", len(blob), at, e, want)
	}
	p.stream = append(p.stream, blob...)
	p.rows(t, "Add", rows)
	return rows
}

// addNot does one Add that must not be done.
func (p *pair) addNot(t *testing.T, blob []byte, want api.Errno) {
	t.Helper()
	if at, rows, e := p.w.Add(blob); at != 0 || len(rows) != 0 || e != want {
		t.Fatalf("Add of %d bytes: %d, %d rows, %v; want %v", len(blob), at, len(rows), e, want)
	}
	p.check(t)
}

func (p *pair) pad(t *testing.T) [][][]byte {
	t.Helper()
	rows := p.w.Pad()
	if row := seg.Row(p.s); len(p.stream)%row != 0 {
		p.stream = append(p.stream, make([]byte, row-len(p.stream)%row)...)
	}
	p.rows(t, "Pad", rows)
	return rows
}

// rows asks that just those that are due were told.
func (p *pair) rows(t *testing.T, what string, rows [][][]byte) {
	t.Helper()
	if want := p.due(); !slices.EqualFunc(rows, want, equal) {
		t.Fatalf("%s, %d bytes then: %d rows; want %d, or others", what, len(p.stream), len(rows), len(want))
	}
	p.check(t)
}

func TestP904NewWriter(t *testing.T) {
	for _, s := range right {
		p := newPair(t, s, 1<<63)
		if rows := p.w.Pad(); len(rows) != 0 {
			t.Errorf("Pad without bytes: %d rows", len(rows))
		}
		p.check(t)
	}
	for _, s := range wrong() {
		if w, e := seg.NewWriter(s, 1); w != nil || e != api.ErrArg {
			t.Errorf("NewWriter(%v): %v, %v; want arg", s, w, e)
		}
	}
}

func TestP904Add(t *testing.T) {
	p := newPair(t, small, 6)
	for _, c := range []struct{ n, rows int }{{1, 0}, {24, 0}, {1, 1}, {25, 0}, {1, 1}} {
		if rows := p.add(t, noise(uint64(c.n), c.n)); len(rows) != c.rows {
			t.Errorf("Add of %d bytes: %d rows; want %d", c.n, len(rows), c.rows)
		}
	}
	p.addNot(t, []byte("a"), api.ErrFull)
	p.addNot(t, nil, api.ErrArg)
}

func TestP904AddOfManyRows(t *testing.T) {
	p := newPair(t, shape(3, 12, 32), 1)
	row := seg.Row(p.s)
	for _, c := range []struct{ n, rows int }{{3*row + 5, 3}, {row - 6, 0}, {2*row + 1, 3}, {4 * row, 4}, {row, 1}} {
		if rows := p.add(t, noise(uint64(c.n), c.n)); len(rows) != c.rows {
			t.Errorf("Add of %d bytes: %d rows; want %d", c.n, len(rows), c.rows)
		}
	}
	p.addNot(t, []byte("a"), api.ErrFull)
}

func TestP904AddOfNothing(t *testing.T) {
	p := newPair(t, small, 1)
	p.addNot(t, nil, api.ErrArg)
	p.addNot(t, []byte{}, api.ErrArg)
	p.add(t, []byte("abc"))
	p.addNot(t, nil, api.ErrArg)
	p.addNot(t, []byte{}, api.ErrArg)
	p.add(t, []byte("def"))
}

func TestP904AddOfMoreThanLeft(t *testing.T) {
	p := newPair(t, small, 1)
	p.addNot(t, make([]byte, 53), api.ErrFull)
	p.addNot(t, make([]byte, 1000), api.ErrFull)
	p.add(t, noise(1, 30))
	p.addNot(t, make([]byte, 23), api.ErrFull)
	p.addNot(t, make([]byte, 52), api.ErrFull)
	if rows := p.add(t, noise(2, 22)); len(rows) != 1 {
		t.Errorf("%d rows; want 1", len(rows))
	}
	p.addNot(t, make([]byte, 1), api.ErrFull)

	p = newPair(t, small, 1)
	if rows := p.add(t, noise(3, 52)); len(rows) != 2 {
		t.Errorf("%d rows; want 2", len(rows))
	}
	p.addNot(t, make([]byte, 1), api.ErrFull)
}

func TestP904Pad(t *testing.T) {
	for n := 1; n <= 52; n++ {
		p := newPair(t, small, uint64(n))
		p.add(t, noise(uint64(n), n))
		if rows, want := p.pad(t), min(n%26, 1); len(rows) != want {
			t.Errorf("Pad of %d bytes: %d rows; want %d", n, len(rows), want)
		}
		if rows := p.pad(t); len(rows) != 0 {
			t.Errorf("Pad behind Pad: %d rows", len(rows))
		}
		if n > 26 {
			p.addNot(t, []byte("a"), api.ErrFull)
			continue
		}
		if rows := p.add(t, noise(9, 26)); len(rows) != 1 {
			t.Errorf("Add behind Pad: %d rows", len(rows))
		}
		if rows := p.pad(t); len(rows) != 0 {
			t.Errorf("Pad of whole rows: %d rows", len(rows))
		}
	}
}

func TestP904PadOfNoughts(t *testing.T) {
	p := newPair(t, small, 1)
	p.add(t, make([]byte, 27))
	if rows := p.pad(t); len(rows) != 1 {
		t.Errorf("%d rows; want 1", len(rows))
	}
}

func TestP904ErrorsBetweenChangeNothing(t *testing.T) {
	p := newPair(t, shape(2, 5, 33), 1)
	for n := 1; p.w.Left() > 0; n++ {
		p.addNot(t, make([]byte, p.w.Left()+1), api.ErrFull)
		p.add(t, noise(uint64(n), min(n, p.w.Left())))
		p.addNot(t, nil, api.ErrArg)
		if n%4 == 0 {
			p.pad(t)
		}
	}
	if p.told != 4 {
		t.Errorf("%d rows told; want 4", p.told)
	}
}

// A row that is put together of very many blobs takes no longer than its bytes.
func TestP904VeryManySmallBlobs(t *testing.T) {
	s := shape(32, 3, 65536)
	p := newPair(t, s, 1)
	p.stream = noise(1, seg.Row(s)+3)
	var told [][][]byte
	for n, b := range p.stream {
		at, rows, e := p.w.Add([]byte{b})
		if at != n || e != api.OK {
			t.Fatalf("blob %d: %d, %v", n, at, e)
		}
		told = append(told, rows...)
	}
	p.rows(t, "Adds", told)
	p.pad(t)
}

// told tells the bytes that rows of pages hold.
func told(s seg.Shape, rows [][][]byte) []byte {
	var b []byte
	for _, row := range rows {
		for _, page := range row[:s.K] {
			b = append(b, page[19:]...)
		}
	}
	return b
}

func TestP905AnyBlobs(t *testing.T) {
	shapes := []seg.Shape{small, shape(1, 2, 32), shape(1, 20, 32), shape(3, 7, 33), shape(32, 4, 32), shape(4, 30, 50)}
	for seed := range uint64(600) {
		r := rand.New(rand.NewPCG(seed, 905))
		p := newPair(t, shapes[seed%uint64(len(shapes))], r.Uint64())
		blobs := map[int][]byte{}
		var rows [][][]byte
		for range 40 {
			n := r.IntN(1 + r.IntN(2*seg.Row(p.s)))
			blob, at := noise(r.Uint64(), n), len(p.stream)
			switch {
			case r.IntN(6) == 0:
				rows = append(rows, p.pad(t)...)
			case n == 0:
				p.addNot(t, blob, api.ErrArg)
			case n > seg.Room(p.s)-at:
				p.addNot(t, blob, api.ErrFull)
			default:
				rows = append(rows, p.add(t, blob)...)
				blobs[at] = blob
			}
		}
		rows = append(rows, p.pad(t)...)
		all := told(p.s, rows)
		if !bytes.Equal(all, p.stream) || len(rows) != p.told {
			t.Fatalf("seed %d: the rows told do not hold the stream", seed)
		}
		for at, blob := range blobs {
			if !bytes.Equal(all[at:at+len(blob)], blob) {
				t.Fatalf("seed %d: a blob of %d bytes does not stand at %d", seed, len(blob), at)
			}
		}
	}
}

// What Where and Span tell of a blob is where its bytes are in the pages that were told.
func TestP905PlacesHoldBlobs(t *testing.T) {
	s := shape(3, 9, 35)
	w := writer(t, s, 4)
	var rows [][][]byte
	var blobs [][]byte
	var places []int
	for n := 1; w.Left() >= n*7; n++ {
		blob := noise(uint64(n), n*7)
		at, more, e := w.Add(blob)
		if e != api.OK {
			t.Fatal(e)
		}
		rows, blobs, places = append(rows, more...), append(blobs, blob), append(places, at)
	}
	rows = append(rows, w.Pad()...)
	for i, blob := range blobs {
		first, last, e := seg.Span(s, places[i], len(blob))
		for n, want := range blob {
			row, shard, off, f := seg.Where(s, places[i]+n)
			if e != api.OK || f != api.OK || row < first || row > last {
				t.Fatalf("blob %d, byte %d: row %d of %d to %d, %v, %v", i, n, row, first, last, e, f)
			}
			if got := rows[row-1][shard][19+off]; got != want {
				t.Fatalf("blob %d, byte %d: %x; want %x", i, n, got, want)
			}
		}
	}
}
