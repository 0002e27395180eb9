package seg_test

import (
	"bytes"
	"math"
	"math/rand/v2"
	"slices"
	"testing"

	"flint/api"
	"flint/seg"
)

// roomy tells b with spare room behind it.
func roomy(b []byte) []byte {
	return append(make([]byte, 0, len(b)+100), b...)
}

// scribble changes each byte of each page, and all spare room, too.
func scribble(pages [][]byte) {
	for _, p := range pages {
		p = p[:cap(p)]
		for i := range p {
			p[i] ^= 0xA5
		}
	}
	clear(pages[:cap(pages)])
}

// copied tells pages that are as these are.
func copied(pages [][]byte) [][]byte {
	var out [][]byte
	for _, p := range pages {
		out = append(out, bytes.Clone(p))
	}
	return out
}

func TestP1P4AnyNumbers(t *testing.T) {
	numbers := []int{math.MinInt, math.MinInt32, -1, 0, 1, 2, 32, 33, 4096, 4097, 65536, 65537, math.MaxInt32, math.MaxInt}
	for _, k := range numbers {
		for _, pages := range numbers {
			for _, page := range numbers {
				s := shape(k, pages, page)
				fine := k >= 1 && k <= 32 && pages >= 2 && pages <= 4096 && page >= 32 && page <= 65536
				if e := seg.Check(s); fine != (e == api.OK) || fine != (seg.Row(s) > 0) || fine != (seg.Room(s) > 0) {
					t.Fatalf("%v: %v, %d, %d", s, e, seg.Row(s), seg.Room(s))
				}
				for _, n := range numbers {
					_, _, _, e := seg.Where(s, n)
					if within := fine && n >= 0 && n < seg.Room(s); within != (e == api.OK) {
						t.Fatalf("Where(%v, %d): %v", s, n, e)
					}
					for _, m := range numbers {
						seg.Span(s, n, m)
					}
				}
			}
		}
	}
}

func TestP1AWriterThatWasNotMade(t *testing.T) {
	var w seg.Writer
	for range 2 {
		if w.Size() != 0 || w.Left() != 0 || len(w.Pad()) != 0 {
			t.Errorf("Size %d, Left %d", w.Size(), w.Left())
		}
		if at, rows, e := w.Add([]byte("a")); at != 0 || len(rows) != 0 || e != api.ErrFull {
			t.Errorf("%d, %d rows, %v", at, len(rows), e)
		}
		if _, _, e := w.Add(nil); e != api.ErrArg {
			t.Errorf("%v", e)
		}
	}
}

func TestP2DataIsNotChangedOrKept(t *testing.T) {
	for _, n := range []int{0, 1, 13, 20, 26, 27} {
		data := roomy(noise(2, n))
		was := bytes.Clone(data[:cap(data)])
		pages, _ := seg.Pages(small, 5, 1, data)
		want := copied(pages)
		if !bytes.Equal(data[:cap(data)], was) {
			t.Errorf("%d bytes: Pages changes what it is handed", n)
		}
		scribble([][]byte{data})
		if !equal(pages, want) {
			t.Errorf("%d bytes: Pages answers what it was handed", n)
		}
	}
}

func TestP2BlobsAreNotChangedOrKept(t *testing.T) {
	for first := 1; first < 100; first++ {
		p := newPair(t, shape(2, 7, 32), 5)
		for n := first; n <= p.w.Left(); n += 7 {
			blob := roomy(noise(uint64(n), n))
			was := bytes.Clone(blob[:cap(blob)])
			p.add(t, blob)
			if !bytes.Equal(blob[:cap(blob)], was) {
				t.Fatalf("Add changes what it is handed")
			}
			scribble([][]byte{blob})
		}
		p.pad(t)
	}
}

func TestP2AnswersAreNewMemory(t *testing.T) {
	p := newPair(t, shape(2, 9, 32), 5)
	for _, n := range []int{60, 25, 30, 1, 12, 2, 26} {
		for _, row := range p.add(t, noise(uint64(n), n)) {
			scribble(row)
		}
		heads, e := seg.Heads(small, 5)
		is(t, "Heads", heads, e, rawRow(small, 5, 0, slices.Repeat([][]byte{{2, 3, 32}}, 4)))
		scribble(heads)
		pages, e := seg.Pages(small, 5, 1, []byte("abc"))
		is(t, "Pages", pages, e, rowOf(small, 5, 1, []byte("abc")))
		scribble(pages)
	}
	for _, row := range p.pad(t) {
		scribble(row)
	}
	p.add(t, noise(1, p.w.Left()))
}

// apart asks that no list of an answer shares memory with another one.
func apart(t *testing.T, what string, rows [][][]byte) {
	t.Helper()
	for n, row := range rows {
		for m, page := range row {
			var others [][]byte
			for i, other := range rows {
				for j, q := range other {
					if i != n || j != m {
						others = append(others, q)
					}
				}
			}
			was := copied(others)
			scribble([][]byte{page})
			if !equal(others, was) {
				t.Fatalf("%s: row %d, page %d shares memory with another one", what, n, m)
			}
		}
		rest := slices.Delete(slices.Clone(rows), n, n+1)
		lists := make([][][]byte, len(rest))
		for i, other := range rest {
			lists[i] = slices.Clone(other)
		}
		clear(row[:cap(row)])
		if !slices.EqualFunc(rest, lists, equal) {
			t.Fatalf("%s: row %d shares memory with another one", what, n)
		}
	}
}

func TestP2ListsOfAnAnswerShareNothing(t *testing.T) {
	heads, _ := seg.Heads(small, 1)
	apart(t, "Heads", [][][]byte{heads})
	pages, _ := seg.Pages(small, 1, 1, noise(1, 26))
	apart(t, "Pages", [][][]byte{pages})
	w := writer(t, shape(2, 9, 32), 1)
	_, rows, _ := w.Add(noise(2, 180))
	apart(t, "Add", rows)
	apart(t, "Pad", w.Pad())
}

func TestP3SameCallsSameAnswers(t *testing.T) {
	s := shape(3, 40, 37)
	a, b := writer(t, s, 8), writer(t, s, 8)
	r := rand.New(rand.NewPCG(3, 9))
	for i := range 80 {
		blob := noise(uint64(i), r.IntN(120))
		x, rows, e := a.Add(blob)
		y, others, f := b.Add(roomy(blob))
		if x != y || e != f || !slices.EqualFunc(rows, others, equal) {
			t.Fatalf("step %d: %d, %v; %d, %v", i, x, e, y, f)
		}
		if i%5 == 0 && !slices.EqualFunc(a.Pad(), b.Pad(), equal) {
			t.Fatalf("step %d: Pad", i)
		}
	}
}

func TestP7EachWriterIsAnother(t *testing.T) {
	a, b := newPair(t, small, 1), newPair(t, small, 1)
	a.add(t, []byte("abc"))
	b.check(t)
	b.add(t, noise(1, 30))
	a.check(t)
	b.pad(t)
	a.pad(t)
}
