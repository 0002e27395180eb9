package dedup_test

import (
	"math/rand/v2"
	"slices"
	"testing"

	"flint/api"
	"flint/dedup"
	"flint/sha"
)

// A shadow tells the chapter a second time, plainly: all hints in a list, the oldest ahead.
type shadow struct {
	most               int
	l                  []hinted
	hits, misses, lies int
}

type hinted struct {
	h sha.Hash
	a api.Addr
}

func (s *shadow) at(h sha.Hash) int {
	return slices.IndexFunc(s.l, func(y hinted) bool { return y.h == h })
}

func (s *shadow) add(h sha.Hash, a api.Addr) {
	if i := s.at(h); i >= 0 {
		s.l = slices.Delete(s.l, i, i+1)
	}
	s.l = append(s.l, hinted{h, a})
	if len(s.l) > s.most {
		s.l = s.l[1:]
	}
}

func (s *shadow) find(d disk, b string) (api.Addr, bool) {
	i := s.at(sha.Sum([]byte(b)))
	if i < 0 {
		s.misses++
		return api.Addr{}, false
	}
	got, e := d.Get(s.l[i].a)
	if e != api.OK || string(got) != b {
		s.lies++
		return api.Addr{}, false
	}
	s.hits++
	return s.l[i].a, true
}

func (s *shadow) forget(segment uint64) int {
	had := len(s.l)
	s.l = slices.DeleteFunc(s.l, func(y hinted) bool { return y.a.Segment == segment })
	return had - len(s.l)
}

// source tells numbers that are the same each time.
func source(seed uint64) *rand.Rand {
	return rand.New(rand.NewPCG(16, seed))
}

// some tells one of l.
func some[T any](r *rand.Rand, l ...T) T {
	return l[r.IntN(len(l))]
}

// words are what is looked for.
var words = []string{"a", "b", "ab", "ba", "aa", "bb", "aba", "bab", "abba", "baab", "", "c"}

// place tells where a word is in d, or some other place.
func place(r *rand.Rand, d disk, word string) api.Addr {
	if r.IntN(4) > 0 {
		for _, i := range r.Perm(len(d)) {
			from := r.IntN(len(d[i]))
			for j := from; j+len(word) <= len(d[i]); j++ {
				if d[i][j:j+len(word)] == word {
					return at(uint64(i), j, len(word))
				}
			}
		}
	}
	return at(r.Uint64N(6), r.IntN(12)-1, some(r, len(word), len(word), r.IntN(6)-1))
}

// change does one call on both, which must tell the same.
func change(t *testing.T, r *rand.Rand, d disk, x *dedup.Index, s *shadow) {
	t.Helper()
	word := some(r, words...)
	switch r.IntN(20) {
	case 0:
		segment := r.Uint64N(6)
		if n, want := x.Forget(segment), s.forget(segment); n != want {
			t.Fatalf("Forget(%d): %d; want %d", segment, n, want)
		}
	case 1, 2, 3, 4, 5, 6, 7, 8, 9, 10:
		a := place(r, d, word)
		x.Add(sha.Sum([]byte(word)), a)
		s.add(sha.Sum([]byte(word)), a)
	default:
		a, ok := x.Find(d, []byte(word))
		if want, right := s.find(d, word); a != want || ok != right {
			t.Fatalf("Find(%q): %v, %v; want %v, %v", word, a, ok, want, right)
		}
	}
}

// look asks both for all that an index tells.
func look(t *testing.T, x *dedup.Index, s *shadow) {
	t.Helper()
	holds(t, x, len(s.l))
	counts(t, x, s.hits, s.misses, s.lies)
	for _, word := range words {
		h := sha.Sum([]byte(word))
		if i := s.at(h); i >= 0 {
			has(t, x, h, s.l[i].a)
		} else {
			lacks(t, x, h)
		}
	}
}

func TestP1603RandomCalls(t *testing.T) {
	d := disk{"abbaab", "baba", "aabb", "bbbbbbbb", "aba"}
	var hits, none, lies int
	for seed := range uint64(300) {
		r := source(seed)
		s := &shadow{most: some(r, 0, 1, 2, 3, 5, 8, 12, 100)}
		x := indexOf(t, s.most)
		for i := range 300 {
			change(t, r, d, x, s)
			look(t, x, s)
			if t.Failed() {
				t.Fatalf("seed %d, call %d", seed, i)
			}
		}
		h, m, l := x.Hits()
		hits, none, lies = hits+h, none+m, lies+l
	}
	if hits < 5000 || none < 5000 || lies < 5000 {
		t.Errorf("Hits of all: %d, %d, %d", hits, none, lies)
	}
}

// Many more Adds than there is room for, with hashes that come again and segments that go.
func TestP1601RandomOrder(t *testing.T) {
	for seed := range uint64(30) {
		r := source(seed)
		s := &shadow{most: 1 + r.IntN(60)}
		x := indexOf(t, s.most)
		for range 3000 {
			if r.IntN(100) == 0 {
				segment := r.Uint64N(5)
				forgets(t, x, segment, s.forget(segment))
			}
			h, a := hash(r.IntN(90)), at(r.Uint64N(5), r.IntN(9), 1)
			x.Add(h, a)
			s.add(h, a)
			holds(t, x, len(s.l))
			has(t, x, s.l[0].h, s.l[0].a)
		}
		for n := range 90 {
			if i := s.at(hash(n)); i >= 0 {
				has(t, x, hash(n), s.l[i].a)
			} else {
				lacks(t, x, hash(n))
			}
		}
	}
}
