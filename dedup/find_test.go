package dedup_test

import (
	"bytes"
	"slices"
	"testing"

	"flint/api"
	"flint/dedup"
	"flint/sha"
)

// reader tells the same whatever it is asked for, and what that was.
type reader struct {
	tell  []byte
	err   api.Errno
	asked []api.Addr
}

func (r *reader) Get(a api.Addr) ([]byte, api.Errno) {
	r.asked = append(r.asked, a)
	return r.tell, r.err
}

// finds asks that Find tells a, and true.
func finds(t *testing.T, x *dedup.Index, r dedup.Reader, b []byte, a api.Addr) {
	t.Helper()
	if got, ok := x.Find(r, b); !ok || got != a {
		t.Fatalf("Find(%q): %v, %v; want %v", b, got, ok, a)
	}
}

// misses asks that Find tells false.
func misses(t *testing.T, x *dedup.Index, r dedup.Reader, b []byte) {
	t.Helper()
	if got, ok := x.Find(r, b); ok || got != (api.Addr{}) {
		t.Fatalf("Find(%q): %v, %v; want none", b, got, ok)
	}
}

// asks holds to what a reader was asked for since the last time.
func (r *reader) asks(t *testing.T, want ...api.Addr) {
	t.Helper()
	if !slices.Equal(r.asked, want) {
		t.Fatalf("asked for %v; want %v", r.asked, want)
	}
	r.asked = nil
}

func counts(t *testing.T, x *dedup.Index, hits, misses, lies int) {
	t.Helper()
	if h, m, l := x.Hits(); h != hits || m != misses || l != lies {
		t.Fatalf("Hits: %d, %d, %d; want %d, %d, %d", h, m, l, hits, misses, lies)
	}
}

func TestP1602Find(t *testing.T) {
	x := indexOf(t, 3)
	counts(t, x, 0, 0, 0)
	b := []byte("bytes")
	r := &reader{tell: []byte("bytes")}
	misses(t, x, r, b)
	r.asks(t)
	counts(t, x, 0, 1, 0)
	x.Add(sha.Sum(b), at(4, 9, 5))
	for i := range 3 {
		finds(t, x, r, b, at(4, 9, 5))
		r.asks(t, at(4, 9, 5))
		counts(t, x, i+1, 1, 0)
	}
	misses(t, x, r, []byte("bytez"))
	misses(t, x, r, []byte("byte"))
	misses(t, x, r, nil)
	r.asks(t)
	counts(t, x, 3, 4, 0)
	holds(t, x, 1)
}

func TestP1602FindNoBytes(t *testing.T) {
	for _, b := range [][]byte{nil, {}} {
		for _, tell := range [][]byte{nil, {}} {
			x := indexOf(t, 1)
			r := &reader{tell: tell}
			misses(t, x, r, b)
			x.Add(sha.Sum(), at(1, 2, 0))
			finds(t, x, r, b, at(1, 2, 0))
			r.asks(t, at(1, 2, 0))
			r.tell = []byte{0}
			misses(t, x, r, b)
			r.asks(t, at(1, 2, 0))
			counts(t, x, 1, 1, 1)
		}
	}
}

// A reader that tells anything but b: the hint was none of b, and stays.
func TestP1602FindALie(t *testing.T) {
	b := []byte("some bytes")
	x := indexOf(t, 1)
	a := at(1, 0, len(b))
	x.Add(sha.Sum(b), a)
	lies := 0
	for _, tell := range [][]byte{nil, {}, b[:9], b[1:], append(slices.Clone(b), 0), append([]byte{0}, b...), append(slices.Clone(b), b...),
		[]byte("Some bytes"), []byte("some bytez"), []byte("some\x00bytes"), make([]byte, 10)} {
		r := &reader{tell: tell}
		misses(t, x, r, b)
		r.asks(t, a)
		lies++
		counts(t, x, lies-1, 0, lies)
		has(t, x, sha.Sum(b), a)
		holds(t, x, 1)
		finds(t, x, &reader{tell: b}, b, a)
		counts(t, x, lies, 0, lies)
	}
}

func TestP1602FindEachBitCounts(t *testing.T) {
	b := make([]byte, 70)
	x := indexOf(t, 1)
	x.Add(sha.Sum(b), at(1, 0, len(b)))
	for bit := range 8 * len(b) {
		tell := slices.Clone(b)
		tell[bit/8] ^= 1 << (bit % 8)
		misses(t, x, &reader{tell: tell}, b)
	}
	counts(t, x, 0, 0, 8*len(b))
}

// What is told beside an error is not told.
func TestP1602FindOfAReaderWithAnError(t *testing.T) {
	b := []byte("bytes")
	x := indexOf(t, 1)
	x.Add(sha.Sum(b), at(1, 0, 5))
	lies := 0
	for _, e := range []api.Errno{api.ErrArg, api.ErrFull, api.ErrLost, api.ErrDown, api.ErrOrder, -1, 99} {
		for _, tell := range [][]byte{nil, b} {
			r := &reader{tell: tell, err: e}
			misses(t, x, r, b)
			r.asks(t, at(1, 0, 5))
			lies++
			counts(t, x, 0, 0, lies)
		}
	}
	x = indexOf(t, 1)
	x.Add(sha.Sum(), at(1, 0, 0))
	misses(t, x, &reader{err: api.ErrLost}, nil) // no bytes, but by an error
	counts(t, x, 0, 0, 1)
}

// Of a hint of other many bytes the reader is not asked, even if it would tell b.
func TestP1602FindByHowManyBytes(t *testing.T) {
	for n := range 6 {
		b := []byte("bytes")[:n]
		for _, hinted := range []int{-1 << 62, -n, -1, 0, 1, 2, 3, 4, 5, 6, n + 256, n + 1<<32, 1<<63 - 1} {
			x := indexOf(t, 1)
			x.Add(sha.Sum(b), at(1, 7, hinted))
			r := &reader{tell: b}
			if hinted == n {
				finds(t, x, r, b, at(1, 7, n))
				r.asks(t, at(1, 7, n))
				counts(t, x, 1, 0, 0)
				continue
			}
			misses(t, x, r, b)
			r.asks(t)
			counts(t, x, 0, 0, 1)
			has(t, x, sha.Sum(b), at(1, 7, hinted))
		}
	}
}

// The hint of other bytes' hash is asked for once, and told to be none of b.
func TestP1602FindOfUnlikeBytesWithOneHash(t *testing.T) {
	d := disk{"first.", "second"}
	x := indexOf(t, 4)
	x.Add(sha.Sum([]byte("second")), d.where(0))
	x.Add(sha.Sum([]byte("first.")), d.where(1))
	misses(t, x, d, []byte("first."))
	misses(t, x, d, []byte("second"))
	counts(t, x, 0, 0, 2)
	x.Add(sha.Sum([]byte("second")), d.where(1)) // a right one takes its place
	finds(t, x, d, []byte("second"), d.where(1))
	misses(t, x, d, []byte("first."))
	counts(t, x, 1, 0, 3)
}

// A disk is segments with some bytes each; it tells those that there are.
type disk []string

func (d disk) where(i int) api.Addr { return at(uint64(i), 0, len(d[i])) }

func (d disk) Get(a api.Addr) ([]byte, api.Errno) {
	if a.Segment >= uint64(len(d)) {
		return nil, api.ErrArg
	}
	b := d[a.Segment]
	if a.At < 0 || a.N < 1 || a.At > len(b) || a.N > len(b)-a.At {
		return nil, api.ErrArg
	}
	return []byte(b[a.At : a.At+a.N]), api.OK
}

func TestP1602HitsOfForgottenHints(t *testing.T) {
	d := disk{"first", "second"}
	x := indexOf(t, 4)
	for i, s := range d {
		x.Add(sha.Sum([]byte(s)), d.where(i))
		finds(t, x, d, []byte(s), d.where(i))
	}
	forgets(t, x, 0, 1)
	counts(t, x, 2, 0, 0) // Forget counts nothing, nor do Hint, Add, Len
	misses(t, x, d, []byte("first"))
	finds(t, x, d, []byte("second"), d.where(1))
	lacks(t, x, sha.Sum([]byte("first")))
	has(t, x, sha.Sum([]byte("second")), d.where(1))
	counts(t, x, 3, 1, 0)
}

func TestP1602FindWithMostNought(t *testing.T) {
	b := []byte("b")
	x := indexOf(t, 0)
	x.Add(sha.Sum(b), at(1, 0, 1))
	r := &reader{tell: b}
	misses(t, x, r, b)
	r.asks(t)
	counts(t, x, 0, 1, 0)
}

// wide is a reader with methods besides Get, one of them called as one within the package is.
type wide struct{ *reader }

func (w wide) may(api.Addr) bool         { return false }
func (w wide) May(api.Addr) bool         { return false }
func (w wide) Has(api.Addr, []byte) bool { return false }

func TestP1602ReadersAreAskedByGetAlone(t *testing.T) {
	b := []byte("bytes")
	x := indexOf(t, 1)
	x.Add(sha.Sum(b), at(1, 0, 5))
	w := wide{&reader{tell: b}}
	if w.may(api.Addr{}) {
		t.Fatal("may")
	}
	finds(t, x, w, b, at(1, 0, 5))
	w.asks(t, at(1, 0, 5))
}

// meddler is a reader that works on the index that asks it.
type meddler struct {
	reader
	do func()
}

func (m *meddler) Get(a api.Addr) ([]byte, api.Errno) {
	m.do()
	return m.reader.Get(a)
}

// What is told is where the reader was asked, whatever hints say by then.
func TestP1603ReadersThatChangeHints(t *testing.T) {
	b := []byte("bytes")
	h := sha.Sum(b)
	for i, c := range []struct {
		do   func(x *dedup.Index)
		hits int
	}{
		{func(x *dedup.Index) { x.Add(h, at(2, 2, 5)) }, 1},
		{func(x *dedup.Index) { x.Add(h, at(2, 2, 6)) }, 1},
		{func(x *dedup.Index) { x.Forget(1) }, 1},
		{func(x *dedup.Index) { x.Add(hash(1), at(2, 2, 2)) }, 1},
		{func(x *dedup.Index) { x.Find(&reader{tell: b}, b) }, 2},
	} {
		x := indexOf(t, 1)
		x.Add(h, at(1, 1, 5))
		m := &meddler{reader{tell: b}, func() { c.do(x) }}
		finds(t, x, m, b, at(1, 1, 5))
		m.asks(t, at(1, 1, 5))
		if hits, none, lies := x.Hits(); hits != c.hits || none != 0 || lies != 0 {
			t.Errorf("%d: Hits: %d, %d, %d", i, hits, none, lies)
		}
	}
}

// Of all hints that may be of some bytes, only those that are right are told.
func TestP1603WhateverHintsSay(t *testing.T) {
	d := disk{"aaaabaaa", "abab", "b"}
	var all []api.Addr
	for s := range uint64(4) {
		for from := -1; from < 9; from++ {
			for n := -1; n < 9; n++ {
				all = append(all, at(s, from, n))
			}
		}
	}
	told := 0
	for _, a := range all {
		for _, s := range []string{"", "a", "b", "aa", "ab", "aaa", "aab", "abab", "aaaabaaa", "c"} {
			x := indexOf(t, 2)
			x.Add(sha.Sum([]byte(s)), a)
			got, ok := x.Find(d, []byte(s))
			b, e := d.Get(a)
			right := e == api.OK && bytes.Equal(b, []byte(s))
			if ok != right || ok && got != a || !ok && got != (api.Addr{}) {
				t.Fatalf("Find(%q) by %v: %v, %v; want %v", s, a, got, ok, right)
			}
			if ok {
				told++
			}
		}
	}
	if told < 20 {
		t.Errorf("only %d are told", told)
	}
}
