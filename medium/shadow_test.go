package medium_test

import (
	"math/rand/v2"
	"slices"
	"testing"

	"flint/api"
	"flint/medium"
)

// A shadow tells the chapter a second time, plainly: all mediums in a list, gone through for each question.
type shadow struct {
	depth int
	next  uint64
	l     []api.Medium
}

func (s *shadow) at(id uint64) int {
	return slices.IndexFunc(s.l, func(y api.Medium) bool { return y.Id == id })
}

// under tells all mediums that are gone through from id on.
func (s *shadow) under(id uint64) []api.Medium {
	i := s.at(id)
	if i < 0 {
		return nil
	}
	return append([]api.Medium{s.l[i]}, s.under(s.l[i].Target)...)
}

func (s *shadow) make(size int, target uint64, at int) (uint64, api.Errno) {
	i := s.at(target)
	switch {
	case size < 1 || size > most || at < 0 || at > most:
		return 0, api.ErrArg
	case target == 0 && at != 0:
		return 0, api.ErrArg
	case target != 0 && i < 0:
		return 0, api.ErrNone
	case target != 0 && !s.l[i].Fixed:
		return 0, api.ErrRead
	case 1+len(s.under(target)) > s.depth:
		return 0, api.ErrMany
	}
	s.l = append(s.l, m(s.next, target, at, size))
	s.next++
	return s.next - 1, api.OK
}

func (s *shadow) fix(id uint64) api.Errno {
	i := s.at(id)
	if i < 0 {
		return api.ErrNone
	}
	s.l[i].Fixed = true
	return api.OK
}

func (s *shadow) resize(id uint64, size int) api.Errno {
	i := s.at(id)
	switch {
	case i < 0:
		return api.ErrNone
	case s.l[i].Fixed:
		return api.ErrRead
	case size < s.l[i].Size || size > most:
		return api.ErrArg
	}
	s.l[i].Size = size
	return api.OK
}

func (s *shadow) alone(id uint64) api.Errno {
	i := s.at(id)
	if i < 0 {
		return api.ErrNone
	}
	s.l[i].Target = 0
	s.l[i].At = 0
	return api.OK
}

func (s *shadow) drop(id uint64) api.Errno {
	i := s.at(id)
	switch {
	case i < 0:
		return api.ErrNone
	case slices.ContainsFunc(s.l, func(y api.Medium) bool { return y.Target == id }):
		return api.ErrHave
	}
	s.l = slices.Delete(s.l, i, i+1)
	return api.OK
}

func (s *shadow) chain(id uint64, block int) []medium.Place {
	i := s.at(id)
	if i < 0 || block < 0 || block > s.l[i].Size-1 {
		return nil
	}
	return append([]medium.Place{p(id, block)}, s.chain(s.l[i].Target, block+s.l[i].At)...)
}

func (s *shadow) dead(roots []uint64) []uint64 {
	var alive, dead []uint64
	for _, id := range roots {
		for _, y := range s.under(id) {
			alive = append(alive, y.Id)
		}
	}
	for _, y := range s.l {
		if !slices.Contains(alive, y.Id) {
			dead = append(dead, y.Id)
		}
	}
	return dead
}

// right tells whether Load must take l: each medium is asked for all that it must be.
func (s *shadow) right() bool {
	last := uint64(0)
	for _, y := range s.l {
		i := s.at(y.Target)
		switch {
		case y.Id <= last || y.Id >= s.next || y.Size < 1 || y.Size > most || y.At < 0 || y.At > most:
			return false
		case y.Target != 0 && (i < 0 || !s.l[i].Fixed):
			return false
		}
		last = y.Id
	}
	return s.next > 0 && !slices.ContainsFunc(s.l, func(y api.Medium) bool { return s.long(y.Id, s.depth) })
}

// long tells whether a chain has more than so many mediums.
func (s *shadow) long(id uint64, n int) bool {
	i := s.at(id)
	return i >= 0 && (n == 0 || s.long(s.l[i].Target, n-1))
}

// source tells numbers that are the same each time.
func source(seed uint64) *rand.Rand {
	return rand.New(rand.NewPCG(14, seed))
}

// some tells one of l.
func some[T any](r *rand.Rand, l ...T) T {
	return l[r.IntN(len(l))]
}

// id tells mostly one that is there.
func (s *shadow) id(r *rand.Rand) uint64 {
	if len(s.l) > 0 && r.IntN(8) > 0 {
		return s.l[max(r.IntN(len(s.l)), r.IntN(len(s.l)))].Id
	}
	return r.Uint64N(s.next + 3)
}

// change does one call on both, which must tell the same.
func change(t *testing.T, r *rand.Rand, x *medium.Table, s *shadow) {
	t.Helper()
	id, size := s.id(r), some(r, -1, 0, 1, 2, 3, 5, 9, 12, most, most+1)
	var got, want api.Errno
	switch r.IntN(9) {
	case 0, 1, 2:
		at := some(r, -1, 0, 0, 0, 1, 2, 4, most, most+1)
		if r.IntN(4) == 0 {
			id, at = 0, some(r, 0, 0, 1)
		}
		n, e := x.Make(size, id, at)
		m, other := s.make(size, id, at)
		if n != m {
			t.Fatalf("Make: %d; want %d", n, m)
		}
		got, want = e, other
	case 3, 4:
		got, want = x.Fix(id), s.fix(id)
	case 5:
		got, want = x.Resize(id, size), s.resize(id, size)
	case 6:
		if r.IntN(3) == 0 {
			got, want = x.Alone(id), s.alone(id)
		}
	default:
		got, want = x.Drop(id), s.drop(id)
	}
	if got != want {
		t.Fatalf("medium %d, size %d: %v; want %v", id, size, got, want)
	}
}

// look asks both for all that a table tells.
func look(t *testing.T, r *rand.Rand, x *medium.Table, s *shadow) {
	t.Helper()
	lists(t, "random calls", x, s.next, s.l...)
	for id := range s.next + 2 {
		if n := x.Deep(id); n != len(s.under(id)) {
			t.Fatalf("Deep(%d): %d; want %d", id, n, len(s.under(id)))
		}
		if s.at(id) < 0 {
			if y, ok := x.Get(id); ok || y != (api.Medium{}) {
				t.Fatalf("Get(%d): %v, %v", id, y, ok)
			}
		}
		for _, block := range []int{-1, 0, 1, 2, 4, 8, 11, most - 1, most} {
			chains(t, x, id, block, s.chain(id, block)...)
		}
	}
	var roots []uint64
	for range r.IntN(4) {
		roots = append(roots, s.id(r))
	}
	if l := x.Dead(roots...); !slices.Equal(l, s.dead(roots)) {
		t.Fatalf("Dead(%v): %v; want %v", roots, l, s.dead(roots))
	}
}

func TestP1406RandomCalls(t *testing.T) {
	for seed := range uint64(60) {
		r := source(seed)
		s := &shadow{depth: some(r, 1, 2, 3, 5, 64), next: 1}
		x := tableOf(t, s.depth)
		for i := range 200 {
			change(t, r, x, s)
			if i%10 == 0 {
				look(t, r, x, s)
			}
			if r.IntN(50) == 0 {
				x = loaded(t, s.depth, x.Next(), x.List()...)
			}
			if t.Failed() {
				t.Fatalf("seed %d, call %d", seed, i)
			}
		}
	}
}

// guess tells mediums that are mostly right, or nearly so.
func guess(r *rand.Rand) *shadow {
	s := &shadow{depth: some(r, 1, 2, 3, 64), next: r.Uint64N(9) + 1}
	if r.IntN(30) == 0 {
		s.next = 0
	}
	for id := range 8 {
		if r.IntN(2) == 0 {
			continue
		}
		y := m(uint64(id+r.IntN(30)/29), 0, some(r, 0, 0, 0, 0, 0, 1, 2, most), some(r, 1, 2, 3, 4, 5, 6, most))
		y.Fixed = r.IntN(3) > 0
		if n := len(s.l); n > 0 && r.IntN(2) == 0 {
			y.Target = s.l[r.IntN(n)].Id
		}
		if r.IntN(30) == 0 {
			y.Target = r.Uint64N(8)
		}
		if r.IntN(60) == 0 {
			y.Size, y.At = some(r, -1, 0, 1, most+1), some(r, -1, 0, most+1)
		}
		s.l = append(s.l, y)
	}
	return s
}

func TestP1401RandomMediums(t *testing.T) {
	right := 0
	const all = 60000
	r := source(99)
	for range all {
		s := guess(r)
		x, e := medium.Load(s.depth, s.next, s.l...)
		if !s.right() {
			if x != nil || e != api.ErrForm {
				t.Fatalf("Load(%d, %d, %v): %v; want form", s.depth, s.next, s.l, e)
			}
			continue
		}
		right++
		if e != api.OK {
			t.Fatalf("Load(%d, %d, %v): %v", s.depth, s.next, s.l, e)
		}
		look(t, r, x, s)
		for range 3 {
			change(t, r, x, s)
		}
		lists(t, "changed", x, s.next, s.l...)
	}
	if right < all/20 || right > all/2 {
		t.Errorf("%d of %d are right", right, all)
	}
}
