package dedup_test

import (
	"bytes"
	"math"
	"testing"

	"flint/api"
	"flint/dedup"
	"flint/sha"
)

func TestP1AnyData(t *testing.T) {
	nums := []int{math.MinInt, math.MinInt32, -1, 0, 1, 2, most, math.MaxInt32, math.MaxInt}
	ids := []uint64{0, 1, math.MaxInt64, math.MaxInt64 + 1, math.MaxUint64}
	d := disk{"abc", "de"}
	for _, n := range []int{0, 1, 2, 7} {
		x := indexOf(t, n)
		for _, id := range ids {
			for _, a := range nums {
				for _, b := range nums {
					x.Add(sha.Sum([]byte("abc")), at(id, a, b))
					x.Add(sha.Sum(), at(id, a, b))
					x.Add(hash(a^b), at(id, a, b))
					x.Find(d, []byte("abc"))
					x.Find(d, nil)
					x.Hint(hash(a))
				}
			}
			x.Forget(id)
		}
		if x.Len() < 0 || x.Len() > n {
			t.Errorf("Len: %d", x.Len())
		}
	}
	for _, n := range nums {
		dedup.New(n)
	}
}

// Of an index that New did not make the chapter says nothing; it holds none.
func TestP1AnIndexThatNewDidNotMake(t *testing.T) {
	x := &dedup.Index{}
	for range 2 {
		x.Add(sha.Sum([]byte("abc")), at(0, 0, 3))
		holds(t, x, 0)
		lacks(t, x, sha.Sum([]byte("abc")))
		misses(t, x, disk{"abc"}, []byte("abc"))
		forgets(t, x, 0, 0)
	}
	counts(t, x, 0, 2, 0)
}

func TestP2WhatIsHandedInIsNotChanged(t *testing.T) {
	whole := []byte("ahead, bytes, behind")
	was := bytes.Clone(whole)
	b := whole[7:12]
	tell := append(make([]byte, 0, 20), "bytes"...)
	x := indexOf(t, 1)
	for _, n := range []int{5, 4} { // found, and not
		x.Add(sha.Sum(b), at(1, 0, n))
		x.Find(&reader{tell: tell}, b)
		x.Find(&reader{tell: tell[:3]}, b)
	}
	if !bytes.Equal(whole, was) {
		t.Errorf("what was looked for is changed: %q", whole)
	}
	if !bytes.Equal(tell[:20], append([]byte("bytes"), make([]byte, 15)...)) {
		t.Errorf("what a reader told is changed: %q", tell[:20])
	}
}

func TestP2WhatIsHandedInIsNotKept(t *testing.T) {
	b := []byte("bytes")
	h := sha.Sum(b)
	x := indexOf(t, 2)
	a := at(1, 0, 5)
	x.Add(h, a)
	first := &reader{tell: b}
	finds(t, x, first, b, a)
	first.asks(t, a)
	clear(b)
	clear(h[:])
	a.At = 9
	has(t, x, sha.Sum([]byte("bytes")), at(1, 0, 5))
	second := &reader{tell: []byte("bytes")}
	finds(t, x, second, []byte("bytes"), at(1, 0, 5))
	first.asks(t) // each Find asks its own reader
	second.asks(t, at(1, 0, 5))
}

func TestP3SameCallsSameAnswers(t *testing.T) {
	d := disk{"abbaab", "baba", "aabb"}
	for seed := range uint64(30) {
		var want []api.Addr
		for range 3 {
			r := source(seed)
			s := &shadow{most: 4}
			x := indexOf(t, 4)
			for range 100 {
				change(t, r, d, x, s)
			}
			var got []api.Addr
			for _, word := range words {
				a, _ := x.Hint(sha.Sum([]byte(word)))
				got = append(got, a)
			}
			if want == nil {
				want = got
			}
			for i := range got {
				if got[i] != want[i] {
					t.Fatalf("seed %d: %v; want %v", seed, got, want)
				}
			}
		}
	}
}

func TestP4NothingBesideAFalseOrAnError(t *testing.T) {
	if x, e := dedup.New(-1); x != nil || e != api.ErrArg {
		t.Errorf("New: %v, %v", x, e)
	}
	b := []byte("bytes")
	x := indexOf(t, 3)
	x.Add(hash(1), at(1, 2, 3))
	lacks(t, x, hash(2))
	misses(t, x, &reader{tell: b}, b)
	x.Add(sha.Sum(b), at(1, 2, 5))
	misses(t, x, &reader{tell: b, err: api.ErrLost}, b)
	misses(t, x, &reader{tell: b[:4]}, b)
	x.Add(sha.Sum(b), at(1, 2, 4))
	misses(t, x, &reader{tell: b}, b)
}

// Nothing but Add and Forget changes hints, and nothing but Find counts.
func TestP5AskingChangesNothing(t *testing.T) {
	x := indexOf(t, 3)
	for i := range 3 {
		x.Add(hash(i), at(1, i, 3))
	}
	for range 3 {
		x.Hint(hash(0))
		x.Hint(hash(9))
		x.Len()
		x.Forget(2)
	}
	counts(t, x, 0, 0, 0)
	for range 2 {
		misses(t, x, &reader{tell: []byte("abc")}, []byte("abc"))
	}
	counts(t, x, 0, 2, 0)
	holds(t, x, 3)
	for i := range 3 {
		has(t, x, hash(i), at(1, i, 3))
	}
	x.Add(hash(5), at(1, 5, 3))
	lacks(t, x, hash(0))
}

func TestP7EachIndexIsAnother(t *testing.T) {
	b := []byte("bytes")
	one, other := indexOf(t, 2), indexOf(t, 2)
	one.Add(sha.Sum(b), at(1, 0, 5))
	finds(t, one, &reader{tell: b}, b, at(1, 0, 5))
	holds(t, other, 0)
	misses(t, other, &reader{tell: b}, b)
	other.Add(sha.Sum(b), at(2, 0, 5))
	forgets(t, one, 1, 1)
	has(t, other, sha.Sum(b), at(2, 0, 5))
	counts(t, one, 1, 0, 0)
	counts(t, other, 0, 1, 0)
}
