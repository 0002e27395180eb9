package dedup_test

import (
	"fmt"
	"math"
	"testing"

	"flint/api"
	"flint/dedup"
	"flint/sha"
)

const most = 1 << 20

// at tells an address.
func at(segment uint64, at, n int) api.Addr {
	return api.Addr{Segment: segment, At: at, N: n}
}

// hash tells the n-th of some hashes that are unlike; that of 0 is all noughts.
func hash(n int) sha.Hash {
	var h sha.Hash
	for i := range 4 {
		h[31-i] = byte(n >> (8 * i))
	}
	return h
}

func indexOf(t *testing.T, most int) *dedup.Index {
	t.Helper()
	x, e := dedup.New(most)
	if e != api.OK || x == nil {
		t.Fatalf("New(%d): %v", most, e)
	}
	return x
}

// has asks that the hint of h is a.
func has(t *testing.T, x *dedup.Index, h sha.Hash, a api.Addr) {
	t.Helper()
	if got, ok := x.Hint(h); !ok || got != a {
		t.Fatalf("Hint(%x): %v, %v; want %v", h[28:], got, ok, a)
	}
}

// lacks asks that there is no hint of these.
func lacks(t *testing.T, x *dedup.Index, l ...sha.Hash) {
	t.Helper()
	for _, h := range l {
		if got, ok := x.Hint(h); ok || got != (api.Addr{}) {
			t.Fatalf("Hint(%x): %v, %v; want none", h[28:], got, ok)
		}
	}
}

// holds asks how many hints there are.
func holds(t *testing.T, x *dedup.Index, n int) {
	t.Helper()
	if x.Len() != n {
		t.Fatalf("Len: %d; want %d", x.Len(), n)
	}
}

func TestP1601New(t *testing.T) {
	for _, n := range []int{math.MinInt, math.MinInt32, -2, -1, most + 1, most + 2, 1 << 21, math.MaxInt32, 1 << 32, 1<<32 + 1, math.MaxInt} {
		if x, e := dedup.New(n); x != nil || e != api.ErrArg {
			t.Errorf("New(%d): %v; want arg", n, e)
		}
	}
	for _, n := range []int{0, 1, 2, 3, 1000, most - 1, most} {
		x := indexOf(t, n)
		holds(t, x, 0)
		lacks(t, x, hash(0), hash(1), sha.Sum())
	}
}

func TestP1601Example(t *testing.T) {
	x := indexOf(t, 1)
	x.Add(hash(1), at(1, 2, 3))
	holds(t, x, 1)
	x.Add(hash(2), at(4, 5, 6))
	holds(t, x, 1)
	lacks(t, x, hash(1))
	has(t, x, hash(2), at(4, 5, 6))
}

// An index holds so many as New says, and then lets the oldest go, one an Add.
func TestP1601AsManyAsMost(t *testing.T) {
	for n := 1; n <= 40; n++ {
		x := indexOf(t, n)
		for i := range 5 * n {
			x.Add(hash(i), at(uint64(i), i, i))
			holds(t, x, min(i+1, n))
			for j := range i + 1 {
				if j > i-n {
					has(t, x, hash(j), at(uint64(j), j, j))
				} else {
					lacks(t, x, hash(j))
				}
			}
			lacks(t, x, hash(i+1))
		}
	}
}

func TestP1601TheGreatestMost(t *testing.T) {
	x := indexOf(t, most)
	for i := range most {
		x.Add(hash(i), at(uint64(i), i, 1))
	}
	holds(t, x, most)
	has(t, x, hash(0), at(0, 0, 1))
	x.Add(hash(0), at(7, 7, 7)) // there already: none goes
	holds(t, x, most)
	has(t, x, hash(1), at(1, 1, 1))
	x.Add(hash(most), at(8, 8, 8))
	holds(t, x, most)
	lacks(t, x, hash(1))
	has(t, x, hash(0), at(7, 7, 7))
	has(t, x, hash(2), at(2, 2, 1))
	has(t, x, hash(most), at(8, 8, 8))
}

func TestP1601MostNought(t *testing.T) {
	x := indexOf(t, 0)
	for i := range 5 {
		x.Add(hash(i%3), at(1, i, 3))
		holds(t, x, 0)
		lacks(t, x, hash(0), hash(1), hash(2))
	}
	if n := x.Forget(1); n != 0 {
		t.Errorf("Forget: %d", n)
	}
}

// The old hint of a hash is no more, and takes no other one's room.
func TestP1601AddInPlaceOfOne(t *testing.T) {
	for n := 1; n <= 5; n++ {
		x := indexOf(t, n)
		for i := range 100 {
			x.Add(hash(0), at(uint64(i), i+1, i+2))
			holds(t, x, 1)
			has(t, x, hash(0), at(uint64(i), i+1, i+2))
		}
		for i := 1; i < n; i++ {
			x.Add(hash(i), at(3, 3, 3))
		}
		holds(t, x, n)
		has(t, x, hash(0), at(99, 100, 101))
	}
}

func TestP1601AddAnewCountsAsNew(t *testing.T) {
	for again := range 4 {
		for _, a := range []api.Addr{at(1, again, 1), at(9, 9, 9)} { // the same address, too
			x := indexOf(t, 4)
			for i := range 4 {
				x.Add(hash(i), at(1, i, 1))
			}
			x.Add(hash(again), a)
			gone := 0
			for i := range 4 { // those that go are in their order; the one that was added anew is the last
				if i == again {
					continue
				}
				x.Add(hash(10+gone), at(2, gone, 2))
				gone++
				lacks(t, x, hash(i))
				has(t, x, hash(again), a)
				holds(t, x, 4)
			}
			x.Add(hash(20), at(3, 3, 3))
			lacks(t, x, hash(again))
			has(t, x, hash(10), at(2, 0, 2))
		}
	}
}

// To be asked for makes no hint newer.
func TestP1601AskingIsNoAdd(t *testing.T) {
	b := []byte("bytes")
	x := indexOf(t, 2)
	x.Add(sha.Sum(b), at(1, 0, 5))
	x.Add(hash(1), at(1, 5, 5))
	for range 3 {
		has(t, x, sha.Sum(b), at(1, 0, 5))
		if _, ok := x.Find(&reader{tell: b}, b); !ok {
			t.Fatal("Find: false")
		}
	}
	x.Add(hash(2), at(1, 10, 5))
	lacks(t, x, sha.Sum(b))
	has(t, x, hash(1), at(1, 5, 5))
}

func TestP1601HashesThatAreNearlyAlike(t *testing.T) {
	x := indexOf(t, 300)
	for bit := range 256 {
		var h sha.Hash
		h[bit/8] = 1 << (bit % 8)
		x.Add(h, at(1, bit, 1))
	}
	holds(t, x, 256)
	for bit := range 256 {
		var h sha.Hash
		h[bit/8] = 1 << (bit % 8)
		has(t, x, h, at(1, bit, 1))
	}
	lacks(t, x, sha.Hash{})
	x.Add(sha.Hash{}, at(2, 2, 2))
	has(t, x, sha.Hash{}, at(2, 2, 2))
	holds(t, x, 257)
}

// Hashes may share an address, and any address may be a hint, one without anything too.
func TestP1601AnyAddress(t *testing.T) {
	x := indexOf(t, 10)
	l := []api.Addr{{}, {}, at(1, 2, 3), at(1, 2, 3), at(math.MaxUint64, math.MaxInt, math.MaxInt), at(0, math.MinInt, math.MinInt), at(1, -1, -1)}
	for i, a := range l {
		x.Add(hash(i), a)
	}
	holds(t, x, len(l))
	for i, a := range l {
		has(t, x, hash(i), a)
	}
}

func forgets(t *testing.T, x *dedup.Index, segment uint64, want int) {
	t.Helper()
	had := x.Len()
	if n := x.Forget(segment); n != want {
		t.Fatalf("Forget(%d): %d; want %d", segment, n, want)
	}
	holds(t, x, had-want)
}

func TestP1602Forget(t *testing.T) {
	for _, segments := range []int{1, 2, 3, 7} {
		for of := range segments + 1 {
			x := indexOf(t, 50)
			many := 0
			for i := range 40 {
				x.Add(hash(i), at(uint64(i%segments), i, of)) // At and N say nothing of the segment
				if i%segments == of {
					many++
				}
			}
			forgets(t, x, uint64(of), many)
			forgets(t, x, uint64(of), 0)
			for i := range 40 {
				if i%segments == of {
					lacks(t, x, hash(i))
				} else {
					has(t, x, hash(i), at(uint64(i%segments), i, of))
				}
			}
		}
	}
}

func TestP1602ForgetTheEndsOfNumbers(t *testing.T) {
	l := []uint64{0, 1, math.MaxInt64, math.MaxInt64 + 1, math.MaxUint64}
	x := indexOf(t, 5)
	for i, s := range l {
		x.Add(hash(i), at(s, 0, 1))
	}
	forgets(t, x, 2, 0)
	for i, s := range l {
		forgets(t, x, s, 1)
		lacks(t, x, hash(i))
	}
}

// What was moved to another segment is of that one.
func TestP1602ForgetByTheLastAddress(t *testing.T) {
	x := indexOf(t, 5)
	x.Add(hash(1), at(1, 0, 1))
	x.Add(hash(1), at(2, 0, 1))
	forgets(t, x, 1, 0)
	has(t, x, hash(1), at(2, 0, 1))
	forgets(t, x, 2, 1)
	lacks(t, x, hash(1))
}

func TestP1602ForgetWhatIsNoMore(t *testing.T) {
	x := indexOf(t, 2)
	for i := range 5 {
		x.Add(hash(i), at(1, i, 1))
	}
	forgets(t, x, 1, 2)
	lacks(t, x, hash(0), hash(1), hash(2), hash(3), hash(4))
}

// Those that are left go in the order in which they were added, whichever were forgotten between.
func TestP1602OrderBehindForget(t *testing.T) {
	const n = 6
	for set := range 1 << n {
		t.Run(fmt.Sprint(set), func(t *testing.T) {
			x := indexOf(t, n)
			var left []int
			for i := range n {
				x.Add(hash(i), at(uint64(set>>i&1), i, 1))
				if set>>i&1 == 0 {
					left = append(left, i)
				}
			}
			forgets(t, x, 1, n-len(left))
			for i := range n - len(left) { // room that there is anew
				x.Add(hash(10+i), at(5, i, 1))
			}
			holds(t, x, n)
			for k, i := range left {
				has(t, x, hash(i), at(0, i, 1))
				x.Add(hash(20+k), at(6, k, 1))
				lacks(t, x, hash(i))
				holds(t, x, n)
			}
			for i := range n - len(left) {
				has(t, x, hash(10+i), at(5, i, 1))
			}
		})
	}
}
