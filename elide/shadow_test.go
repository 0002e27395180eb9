package elide_test

import (
	"bytes"
	"math/rand/v2"
	"slices"
	"strings"
	"testing"

	"flint/api"
	"flint/elide"
)

// A shadow tells the chapter a second time, plainly: all elisions that are in a set, each as it was added.
type shadow []api.Elision

func (s shadow) has(key string, seq uint64) bool {
	return slices.ContainsFunc(s, func(e api.Elision) bool {
		return e.Lo <= key && key < e.Hi && e.Seq >= seq
	})
}

// top tells the greatest Seq that elides facts of key.
func (s shadow) top(key string) (uint64, bool) {
	seq, some := uint64(0), false
	for _, e := range s {
		if e.Lo <= key && key < e.Hi {
			seq, some = max(seq, e.Seq), true
		}
	}
	return seq, some
}

// edges tells where stretches begin and end.
func (s shadow) edges() []string {
	var l []string
	for _, e := range s {
		l = append(l, e.Lo, e.Hi)
	}
	slices.Sort(l)
	return slices.Compact(l)
}

func (s shadow) list() []api.Elision {
	var out []api.Elision
	edges := s.edges()
	for i := 1; i < len(edges); i++ {
		seq, some := s.top(edges[i-1])
		if !some {
			continue
		}
		e := api.Elision{Lo: edges[i-1], Hi: edges[i], Seq: seq}
		if n := len(out); n > 0 && out[n-1].Hi == e.Lo && out[n-1].Seq == seq {
			e.Lo, out = out[n-1].Lo, out[:n-1]
		}
		out = append(out, e)
	}
	return out
}

// over asks for a key that is shared: if there is one, so is the place where the later of both stretches begins.
func (s shadow) over(lo, hi string) []api.Elision {
	return slices.DeleteFunc(s.list(), func(e api.Elision) bool {
		shared := func(k string) bool { return e.Lo <= k && k < e.Hi && lo <= k && k < hi }
		return !shared(e.Lo) && !shared(lo)
	})
}

func (s shadow) forget(up uint64) shadow {
	return slices.DeleteFunc(s.list(), func(e api.Elision) bool { return e.Seq <= up })
}

// newest tells the place of the fact that Newest tells, or -1.
func (s shadow) newest(l []api.Fact) int {
	best := -1
	for i, x := range l {
		if best < 0 || x.Seq > l[best].Seq {
			best = i
		}
	}
	if best >= 0 && s.has(l[best].Key, l[best].Seq) {
		return -1
	}
	return best
}

func (s shadow) filter(l []api.Fact) []api.Fact {
	var out []api.Fact
	for _, x := range l {
		newest := !slices.ContainsFunc(l, func(y api.Fact) bool { return y.Key == x.Key && y.Seq > x.Seq })
		if newest && !s.has(x.Key, x.Seq) {
			out = append(out, x)
		}
	}
	return out
}

func e(lo, hi string, seq uint64) api.Elision {
	return api.Elision{Lo: lo, Hi: hi, Seq: seq}
}

func f(key string, seq uint64, value string) api.Fact {
	return api.Fact{Key: key, Seq: seq, Value: []byte(value)}
}

func same(a, b api.Fact) bool {
	return a.Key == b.Key && a.Seq == b.Seq && bytes.Equal(a.Value, b.Value)
}

func source(a, b uint64) *rand.Rand {
	return rand.New(rand.NewPCG(a, b))
}

// setOf tells a set that New made.
func setOf(t *testing.T, l ...api.Elision) *elide.Set {
	t.Helper()
	s, err := elide.New(l...)
	if err != api.OK || s == nil {
		t.Fatalf("New: %v", err)
	}
	return s
}

func add(t *testing.T, s *elide.Set, l ...api.Elision) {
	t.Helper()
	for _, x := range l {
		if err := s.Add(x); err != api.OK {
			t.Fatalf("Add(%v): %v", x, err)
		}
	}
}

// lists asks that a set tells these elisions.
func lists(t *testing.T, what string, s *elide.Set, want ...api.Elision) {
	t.Helper()
	if l := s.List(); !slices.Equal(l, want) || s.Len() != len(want) {
		t.Errorf("%s: %v, Len %d; want %v", what, l, s.Len(), want)
	}
}

// key tells one of few keys, some of which are the beginnings of others.
func key(r *rand.Rand) string {
	b := make([]byte, r.IntN(4))
	for i := range b {
		b[i] = []byte{0, 'a', 'b', 0xFF}[r.IntN(4)]
	}
	return string(b)
}

// seq tells a small number as a rule, so that many are alike.
func seq(r *rand.Rand) uint64 {
	if r.IntN(10) == 0 {
		return r.Uint64() >> r.IntN(64)
	}
	return uint64(r.IntN(5))
}

// elision tells one that may be.
func elision(r *rand.Rand) api.Elision {
	for {
		if lo, hi := key(r), key(r); lo < hi {
			return e(lo, hi, seq(r))
		}
	}
}

func elisions(r *rand.Rand, n int) []api.Elision {
	var l []api.Elision
	for range n {
		l = append(l, elision(r))
	}
	return l
}

// facts tells n facts at most, in order.
func facts(r *rand.Rand, n int) []api.Fact {
	var l []api.Fact
	for range n {
		l = append(l, f(key(r), seq(r), strings.Repeat("v", r.IntN(3))))
	}
	slices.SortFunc(l, func(a, b api.Fact) int {
		if a.Key == b.Key && a.Seq != b.Seq {
			return map[bool]int{true: -1, false: 1}[a.Seq > b.Seq]
		}
		return strings.Compare(a.Key, b.Key)
	})
	return slices.CompactFunc(l, func(a, b api.Fact) bool { return a.Key == b.Key && a.Seq == b.Seq })
}

// agrees asks that a set tells what its shadow tells.
func agrees(t *testing.T, r *rand.Rand, set *elide.Set, s shadow) {
	t.Helper()
	if l, want := set.List(), s.list(); !slices.Equal(l, want) || set.Len() != len(want) {
		t.Fatalf("List: %v, Len %d; want %v", l, set.Len(), want)
	}
	for range 20 {
		k, n := key(r), seq(r)
		if set.Has(k, n) != s.has(k, n) {
			t.Fatalf("Has(%q, %d): %v; of %v", k, n, !s.has(k, n), s)
		}
		lo, hi := key(r), key(r)
		if l, want := set.Over(lo, hi), s.over(lo, hi); !slices.Equal(l, want) {
			t.Fatalf("Over(%q, %q): %v; want %v", lo, hi, l, want)
		}
	}
	l := facts(r, 12)
	if got, err := set.Filter(l); err != api.OK || !slices.EqualFunc(got, s.filter(l), same) {
		t.Fatalf("Filter(%v): %v, %v; of %v", l, got, err, s)
	}
	some := l[:r.IntN(len(l)+1)]
	got, ok := set.Newest(some...)
	i := s.newest(some)
	if ok != (i >= 0) || ok && !same(got, some[i]) || !ok && !same(got, api.Fact{}) {
		t.Fatalf("Newest(%v): %v, %v; of %v", some, got, ok, s)
	}
}

func TestP1205SetsAreAsTheirShadows(t *testing.T) {
	r := source(12, 1)
	for range 300 {
		l := elisions(r, r.IntN(20))
		set, s := setOf(t, l...), shadow(slices.Clone(l))
		agrees(t, r, set, s)
		for range 20 {
			switch x := elision(r); r.IntN(8) {
			case 0:
				up := seq(r)
				left := s.forget(up)
				if n, want := set.Forget(up), len(s.list())-len(left); n != want {
					t.Fatalf("Forget(%d): %d; want %d", up, n, want)
				}
				s = left
			case 1:
				x.Lo, x.Hi = x.Hi, x.Lo
				if err := set.Add(x); err != api.ErrArg {
					t.Fatalf("Add(%v): %v; want arg", x, err)
				}
			default:
				add(t, set, x)
				s = append(s, x)
			}
			agrees(t, r, set, s)
		}
	}
}

// In whatever order elisions are added, at once or one by one, the set is the same one.
func TestP1205OrderIsNotTold(t *testing.T) {
	r := source(12, 2)
	for range 300 {
		l := elisions(r, 2+r.IntN(15))
		want := setOf(t, l...).List()
		for range 5 {
			r.Shuffle(len(l), func(i, j int) { l[i], l[j] = l[j], l[i] })
			lists(t, "at once", setOf(t, l...), want...)
			from := r.IntN(len(l))
			s := setOf(t, l[:from]...)
			add(t, s, l[from:]...)
			add(t, s, l[r.IntN(len(l)):]...) // again
			lists(t, "one by one", s, want...)
		}
	}
}

// However an elision is parted into ones that touch or lie over each other, the set is the same one.
func TestP1205PartsAreNotTold(t *testing.T) {
	r := source(12, 3)
	for range 300 {
		l := elisions(r, 1+r.IntN(10))
		want := setOf(t, l...).List()
		var parts []api.Elision
		for _, x := range l {
			a, b := key(r), key(r)
			if a > b {
				a, b = b, a
			}
			if x.Lo < a && b < x.Hi {
				parts = append(parts, e(x.Lo, b, x.Seq), e(a, x.Hi, x.Seq))
				if a == b {
					continue
				}
				parts = append(parts, e(a, b, x.Seq/2))
				continue
			}
			parts = append(parts, x)
		}
		s := setOf(t)
		add(t, s, parts...)
		lists(t, "one by one", s, want...)
		lists(t, "at once", setOf(t, parts...), want...)
		lists(t, "of its List", setOf(t, want...), want...)
	}
}
