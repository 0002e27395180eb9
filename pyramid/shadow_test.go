package pyramid_test

import (
	"cmp"
	"maps"
	"math/rand/v2"
	"slices"
	"strings"
	"testing"

	"flint/api"
	"flint/elide"
	"flint/pyramid"
)

// A shadow tells the chapter a second time, plainly: each patch with its facts, and a map that all Puts and Elides were done to.
type shadow struct {
	fan      int
	seq      uint64
	fresh    []api.Fact
	patches  []layer
	elisions []api.Elision
	values   map[string]api.Fact
}

type layer struct {
	level int
	facts []api.Fact // in order
}

func (l layer) bounds() (lo, hi uint64) {
	older := func(a, b api.Fact) int { return cmp.Compare(a.Seq, b.Seq) }
	return slices.MinFunc(l.facts, older).Seq, slices.MaxFunc(l.facts, older).Seq
}

func (s *shadow) put(key, value string) {
	s.seq++
	s.fresh = append(s.fresh, f(key, s.seq, value))
	s.values[key] = f(key, s.seq, value)
}

func (s *shadow) elide(lo, hi string) {
	s.seq++
	s.elisions = append(s.elisions, el(lo, hi, s.seq))
	maps.DeleteFunc(s.values, func(key string, _ api.Fact) bool { return lo <= key && key < hi })
}

func (s *shadow) scan(lo, hi string, most int) []api.Fact {
	var l []api.Fact
	for _, key := range slices.Sorted(maps.Keys(s.values)) {
		if lo <= key && key < hi && len(l) < most {
			l = append(l, s.values[key])
		}
	}
	return l
}

func ordered(l []api.Fact) []api.Fact {
	slices.SortFunc(l, func(a, b api.Fact) int {
		return cmp.Or(strings.Compare(a.Key, b.Key), cmp.Compare(b.Seq, a.Seq))
	})
	return l
}

func (s *shadow) flush() {
	if len(s.fresh) > 0 {
		s.patches = append(s.patches, layer{0, ordered(s.fresh)})
		s.fresh = nil
	}
}

// plain tells the elisions made plain, which chapter 12 does.
func (s *shadow) plain() []api.Elision {
	set, e := elide.New(s.elisions...)
	if e != api.OK {
		panic(e)
	}
	return set.List()
}

// counting tells the newest facts of l that are not elided.
func (s *shadow) counting(l []api.Fact) []api.Fact {
	var out []api.Fact
	for i, x := range l {
		gone := slices.ContainsFunc(s.elisions, func(e api.Elision) bool { return e.Lo <= x.Key && x.Key < e.Hi && x.Seq <= e.Seq })
		if !gone && (i == 0 || l[i-1].Key != x.Key) {
			out = append(out, x)
		}
	}
	return out
}

// merging tells the level whose patches are to be made one (-1: all are), and that one's level.
func (s *shadow) merging() (from, to int, some bool) {
	for level := range 61 {
		n := 0
		for _, x := range s.patches {
			if x.level == level {
				n++
			}
		}
		if n >= s.fan {
			return level, level + 1, true
		}
		if n > 0 {
			to = level
		}
	}
	return -1, to, len(s.plain()) > 64 && len(s.patches) > 0
}

func (s *shadow) merge() bool {
	from, to, some := s.merging()
	if !some {
		return false
	}
	var rest []layer
	var l []api.Fact
	for _, x := range s.patches {
		if from < 0 || x.level == from {
			l = append(l, x.facts...)
		} else {
			rest = append(rest, x)
		}
	}
	l = s.counting(ordered(l))
	if len(rest) == 0 && len(s.fresh) == 0 {
		s.elisions = nil
	}
	if len(l) > 0 {
		rest = append(rest, layer{to, l})
	}
	s.patches = rest
	return true
}

// sorted tells the patches by level, then by their least number.
func (s *shadow) sorted() []layer {
	l := slices.Clone(s.patches)
	slices.SortFunc(l, func(a, b layer) int {
		x, _ := a.bounds()
		y, _ := b.bounds()
		return cmp.Or(cmp.Compare(a.level, b.level), cmp.Compare(x, y))
	})
	return l
}

// agrees asks that a pyramid tells what its shadow tells.
func (s *shadow) agrees(t *testing.T, r *rand.Rand, k *keep, p *pyramid.Pyramid) {
	t.Helper()
	x := p.State()
	if x.Seq != s.seq || !slices.Equal(x.Elisions, s.plain()) || p.Pending() != len(s.fresh) || len(x.Patches) != len(s.patches) {
		t.Fatalf("%v, %d pending; want %v", x, p.Pending(), s)
	}
	where := p.Where()
	for i, want := range s.sorted() {
		lo, hi := want.bounds()
		if got := x.Patches[i]; got.Level != want.level || got.Lo != lo || got.Hi != hi || got.At != where[i] {
			t.Fatalf("patch %d: %v, at %v; want level %d, %d to %d", i, got, where[i], want.level, lo, hi)
		}
		if l := k.facts(t, where[i]); !slices.EqualFunc(l, want.facts, same) {
			t.Fatalf("patch %d: %v; want %v", i, l, want.facts)
		}
	}
	s.tells(t, r, p)
}

// tells asks for keys and stretches.
func (s *shadow) tells(t *testing.T, r *rand.Rand, p *pyramid.Pyramid) {
	t.Helper()
	for range 5 {
		k := key(r)
		v, ok, e := p.Get(k)
		if want, some := s.values[k]; e != api.OK || ok != some || string(v) != string(want.Value) {
			t.Fatalf("Get(%q): %q, %v, %v; want %v, %v", k, v, ok, e, want, some)
		}
		lo, hi, most := key(r), key(r), r.IntN(8)-1
		if l, e := p.Scan(lo, hi, most); e != api.OK || !slices.EqualFunc(l, s.scan(lo, hi, most), same) {
			t.Fatalf("Scan(%q, %q, %d): %v, %v; want %v", lo, hi, most, l, e, s.scan(lo, hi, most))
		}
	}
	if l, e := p.Scan("", last, 1000); e != api.OK || !slices.EqualFunc(l, s.scan("", last, 1000), same) {
		t.Fatalf("Scan of all: %v, %v; want %v", l, e, s.scan("", last, 1000))
	}
}

// key tells one of few keys, some of which are the beginnings of others.
func key(r *rand.Rand) string {
	b := make([]byte, r.IntN(4))
	for i := range b {
		b[i] = []byte{0, 'a', 'b', 0xFF}[r.IntN(4)]
	}
	return string(b)
}

// stretch tells one of a few keys, often of such as no fact has, so that many elisions come together.
func stretch(r *rand.Rand) (lo, hi string) {
	for {
		lo, hi = key(r), key(r)
		if r.IntN(10) > 0 {
			lo += strings.Repeat("n", r.IntN(5))
			hi = lo + "\x00"
		}
		if lo < hi {
			return lo, hi
		}
	}
}

// work does one thing to both.
func (s *shadow) work(t *testing.T, r *rand.Rand, k *keep, p *pyramid.Pyramid) *pyramid.Pyramid {
	t.Helper()
	switch n := r.IntN(40); {
	case n < 12:
		k, v := key(r), strings.Repeat("v", r.IntN(5))
		put(t, p, k, v)
		s.put(k, v)
	case n < 19:
		lo, hi := stretch(r)
		elided(t, p, lo, hi)
		s.elide(lo, hi)
	case n < 27:
		flush(t, p)
		s.flush()
	case n < 33:
		merge(t, p, s.merge())
	case n < 36:
		if at := p.Where(); len(at) > 0 {
			from := at[r.IntN(len(at))]
			to := k.lay(k.blobs[from])
			if !p.Move(from, to) {
				t.Fatalf("Move: false")
			}
			k.blobs[from] = nil
		}
	case n < 38 && len(s.fresh) == 0:
		x, e := pyramid.Decode(pyramid.Encode(p.State()))
		if e != api.OK {
			t.Fatal(e)
		}
		return loaded(t, k, s.fan, x)
	default:
		fails(t, r, k, p)
	}
	return p
}

// fails asks a pyramid for work while its Keep answers errors alone.
func fails(t *testing.T, r *rand.Rand, k *keep, p *pyramid.Pyramid) {
	t.Helper()
	want := []api.Errno{api.ErrLost, api.ErrFull, api.ErrDown}[r.IntN(3)]
	k.full = want
	if r.IntN(2) == 0 {
		k.lose(want)
	}
	if e := p.Flush(); e != want && (e != api.OK || p.Pending() > 0) {
		t.Fatalf("Flush: %v; want %v", e, want)
	}
	_, _, e := p.Get(key(r))
	l, g := p.Scan("", last, 9)
	if e != api.OK && e != want || g != api.OK && (g != want || len(l) > 0) {
		t.Fatalf("%v, %v; want %v", e, g, want)
	}
	k.full = api.OK
	k.lose(api.OK)
}

func TestP1306PyramidsAreAsTheirShadows(t *testing.T) {
	r := source(13, 4)
	for range 40 {
		k := newKeep()
		s := &shadow{fan: []int{2, 3, 4, 40}[r.IntN(4)], values: map[string]api.Fact{}}
		p := made(t, k, s.fan)
		for range 500 {
			p = s.work(t, r, k, p)
			s.agrees(t, r, k, p)
		}
	}
}

// Many facts that are pending, and few; keys that are put again and again.
func TestP1306PendingFacts(t *testing.T) {
	r := source(13, 5)
	for range 20 {
		s := &shadow{fan: 4, values: map[string]api.Fact{}}
		p := made(t, newKeep(), 4)
		for range 1 + r.IntN(300) {
			k, v := key(r), strings.Repeat("v", r.IntN(3))
			put(t, p, k, v)
			s.put(k, v)
			if r.IntN(20) == 0 {
				lo, hi := stretch(r)
				elided(t, p, lo, hi)
				s.elide(lo, hi)
			}
			s.tells(t, r, p)
		}
	}
}

// The same calls in the same order answer the same, the Keep's bytes too.
func TestP3SameCallsSameAnswers(t *testing.T) {
	var want []byte
	var blobs map[api.Addr][]byte
	for i := range 3 {
		r, k := source(13, 6), newKeep()
		s := &shadow{fan: 3, values: map[string]api.Fact{}}
		p := made(t, k, 3)
		for range 500 {
			p = s.work(t, r, k, p)
		}
		b := pyramid.Encode(p.State())
		if i == 0 {
			want, blobs = b, k.blobs
		}
		if !slices.Equal(b, want) || !maps.EqualFunc(k.blobs, blobs, func(a, b []byte) bool { return slices.Equal(a, b) }) {
			t.Fatal("the same calls answer otherwise")
		}
	}
}
