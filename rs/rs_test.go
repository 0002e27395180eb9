package rs_test

import (
	"bytes"
	"math"
	"math/rand/v2"
	"slices"
	"testing"

	"flint/api"
	"flint/rs"
)

// mostK is the greatest k there is.
const mostK = 32

// product tells what a product of the field must be, as long multiplication and long division do it.
func product(a, b byte) byte {
	p := 0
	for i := range 8 {
		if b>>i&1 == 1 {
			p ^= int(a) << i
		}
	}
	for i := 14; i >= 8; i-- {
		if p>>i&1 == 1 {
			p ^= 0b1_0001_1101 << (i - 8)
		}
	}
	return byte(p)
}

// sums tells the two bytes of parity of a byte of each shard.
func sums(column []byte) (p, q byte) {
	power := byte(1)
	for _, x := range column {
		p ^= x
		q ^= product(power, x)
		power = product(power, 2)
	}
	return p, q
}

// parityOf tells what Parity must.
func parityOf(shards [][]byte) [][]byte {
	made := [][]byte{make([]byte, len(shards[0])), make([]byte, len(shards[0]))}
	for i := range shards[0] {
		var column []byte
		for _, s := range shards {
			column = append(column, s[i])
		}
		made[0][i], made[1][i] = sums(column)
	}
	return made
}

// code tells the code of k.
func code(t *testing.T, k int) *rs.Code {
	t.Helper()
	c, e := rs.New(k)
	if e != api.OK || c == nil {
		t.Fatalf("New(%d): %v", k, e)
	}
	return c
}

// random tells shards that are the same ones for the same r.
func random(r *rand.Rand, n, size int) [][]byte {
	var shards [][]byte
	for range n {
		s := make([]byte, size)
		for i := range s {
			s[i] = byte(r.Uint32())
		}
		shards = append(shards, s)
	}
	return shards
}

// fitting tells k random shards and their parity.
func fitting(r *rand.Rand, k, size int) [][]byte {
	shards := random(r, k, size)
	return append(shards, parityOf(shards)...)
}

// without tells shards that are as these are, but for some that are missing.
func without(shards [][]byte, missing ...int) [][]byte {
	out := slices.Clone(shards)
	for _, n := range missing {
		out[n] = nil
	}
	return out
}

func equal(a, b [][]byte) bool {
	return slices.EqualFunc(a, b, bytes.Equal)
}

// is asks that a call answered these shards.
func is(t *testing.T, what string, got [][]byte, e api.Errno, want [][]byte) {
	t.Helper()
	if e != api.OK || !equal(got, want) {
		t.Fatalf("%s: % x, %v; want % x", what, got, e, want)
	}
}

// fails asks that a call answered an error, and nothing beside it.
func fails(t *testing.T, what string, got [][]byte, e, want api.Errno) {
	t.Helper()
	if e != want || len(got) != 0 {
		t.Errorf("%s: % x, %v; want %v", what, got, e, want)
	}
}

// checks asks that Check answered this.
func checks(t *testing.T, what string, got bool, e api.Errno, fit bool, want api.Errno) {
	t.Helper()
	if got != fit || e != want {
		t.Errorf("%s: %v, %v; want %v, %v", what, got, e, fit, want)
	}
}

func TestP601New(t *testing.T) {
	for k := 1; k <= mostK; k++ {
		if got := code(t, k).K(); got != k {
			t.Errorf("New(%d): K %d", k, got)
		}
	}
}

func TestP601NewOfNoK(t *testing.T) {
	for _, k := range []int{math.MinInt, -33, -32, -2, -1, 0, 33, 34, 255, 256, 257, 256 + 5, math.MaxInt32, math.MaxInt} {
		if c, e := rs.New(k); c != nil || e != api.ErrArg {
			t.Errorf("New(%d): %v, %v; want arg", k, c, e)
		}
	}
}

func TestP602Parity(t *testing.T) {
	p, e := code(t, 2).Parity([]byte{5}, []byte{6})
	is(t, "the example", p, e, [][]byte{{3}, {9}})
	p, e = code(t, 1).Parity([]byte{0, 7, 0xFF})
	is(t, "of one", p, e, [][]byte{{0, 7, 0xFF}, {0, 7, 0xFF}})
	p, e = code(t, 3).Parity([]byte{1, 0, 0}, []byte{0, 1, 0x80}, []byte{0, 0, 0xC0})
	is(t, "of three", p, e, [][]byte{{1, 1, 0x40}, {1, 2, 0x1D ^ 0x27}})
}

func TestP602ParityOfOneByteEach(t *testing.T) {
	for k := 1; k <= mostK; k++ {
		c := code(t, k)
		for x := range 256 {
			for n := range k {
				shards := make([][]byte, k)
				for i := range shards {
					shards[i] = []byte{0}
				}
				shards[n][0] = byte(x)
				p, e := c.Parity(shards...)
				is(t, "Parity", p, e, parityOf(shards))
			}
		}
	}
}

func TestP602ParityOfAnyLength(t *testing.T) {
	r := rand.New(rand.NewPCG(602, 1))
	for k := 1; k <= mostK; k++ {
		c := code(t, k)
		for _, size := range []int{1, 2, 3, 13, 15, 16, 17, 255, 256, 257, 300} {
			shards := random(r, k, size)
			p, e := c.Parity(shards...)
			is(t, "Parity", p, e, parityOf(shards))
		}
	}
}

func TestP602ParityOfGreatShards(t *testing.T) {
	r := rand.New(rand.NewPCG(602, 2))
	shards := random(r, 3, 1<<17+1)
	p, e := code(t, 3).Parity(shards...)
	if e != api.OK || !equal(p, parityOf(shards)) {
		t.Errorf("other bytes, %v", e)
	}
}

func TestP602ParityOfSameShards(t *testing.T) {
	one := []byte("one")
	p, e := code(t, 2).Parity(one, one)
	is(t, "Parity", p, e, parityOf([][]byte{one, one}))
}

func TestP602ParityOfOtherThanK(t *testing.T) {
	r := rand.New(rand.NewPCG(602, 3))
	for k := 1; k <= mostK; k++ {
		c := code(t, k)
		for n := range mostK + 4 {
			if n != k {
				p, e := c.Parity(random(r, n, 4)...)
				fails(t, "Parity", p, e, api.ErrArg)
			}
		}
	}
	p, e := code(t, 1).Parity()
	fails(t, "Parity of none", p, e, api.ErrArg)
}

func TestP602ParityOfUnevenShards(t *testing.T) {
	r := rand.New(rand.NewPCG(602, 4))
	for k := 1; k <= mostK; k++ {
		c := code(t, k)
		for n := range k {
			for _, size := range []int{0, 1, 4, 6, 250} {
				shards := random(r, k, 5)
				shards[n] = make([]byte, size)
				if k > 1 || size == 0 {
					p, e := c.Parity(shards...)
					fails(t, "Parity", p, e, api.ErrArg)
				}
			}
			p, e := c.Parity(without(random(r, k, 5), n)...)
			fails(t, "Parity of nil", p, e, api.ErrArg)
		}
		p, e := c.Parity(make([][]byte, k)...)
		fails(t, "Parity of no bytes", p, e, api.ErrArg)
		p, e = c.Parity(slices.Repeat([][]byte{{}}, k)...)
		fails(t, "Parity of empty ones", p, e, api.ErrArg)
	}
}

func TestP603CheckOfParity(t *testing.T) {
	r := rand.New(rand.NewPCG(603, 1))
	for k := 1; k <= mostK; k++ {
		for _, size := range []int{1, 2, 13, 256} {
			fit, e := code(t, k).Check(fitting(r, k, size)...)
			checks(t, "Check", fit, e, true, api.OK)
		}
	}
	fit, e := code(t, 2).Check([]byte{5}, []byte{6}, []byte{3}, []byte{9})
	checks(t, "the example", fit, e, true, api.OK)
	fit, e = code(t, 2).Check([]byte{5}, []byte{6}, []byte{9}, []byte{3})
	checks(t, "parity that changed places", fit, e, false, api.OK)
	fit, e = code(t, 2).Check([]byte{6}, []byte{5}, []byte{3}, []byte{9})
	checks(t, "shards that changed places", fit, e, false, api.OK)
	fit, e = code(t, 1).Check([]byte{0, 0}, []byte{0, 0}, []byte{0, 0})
	checks(t, "noughts", fit, e, true, api.OK)
}

func TestP603CheckOfAnyBytes(t *testing.T) {
	r := rand.New(rand.NewPCG(603, 2))
	fits := 0
	for range 5000 {
		k := 1 + r.IntN(3)
		shards := random(r, k+2, 1)
		for _, s := range shards {
			s[0] &= 1 // few bytes, so that some fit
		}
		want := equal(parityOf(shards[:k]), shards[k:])
		got, e := code(t, k).Check(shards...)
		checks(t, "Check", got, e, want, api.OK)
		if want {
			fits++
		}
	}
	if fits < 100 {
		t.Errorf("%d fit", fits)
	}
}

func TestP603CheckOfWhatMayNotBe(t *testing.T) {
	r := rand.New(rand.NewPCG(603, 3))
	for k := 1; k <= mostK; k++ {
		c := code(t, k)
		for n := range mostK + 5 {
			if n != k+2 {
				fit, e := c.Check(random(r, n, 3)...)
				checks(t, "too few, too many", fit, e, false, api.ErrArg)
			}
		}
		for n := range k + 2 {
			shards := fitting(r, k, 3)
			fit, e := c.Check(without(shards, n)...)
			checks(t, "one missing", fit, e, false, api.ErrArg)
			fit, e = c.Check(without(shards, n, (n+1)%(k+2), (n+2)%(k+2))...)
			checks(t, "three missing", fit, e, false, api.ErrArg)
			for _, size := range []int{0, 1, 2, 4} {
				shards[n] = make([]byte, size)
				fit, e = c.Check(shards...)
				checks(t, "uneven", fit, e, false, api.ErrArg)
			}
		}
		fit, e := c.Check(make([][]byte, k+2)...)
		checks(t, "all missing", fit, e, false, api.ErrArg)
	}
}

func TestP604CheckFindsAByte(t *testing.T) {
	r := rand.New(rand.NewPCG(604, 1))
	for k := 1; k <= mostK; k++ {
		c := code(t, k)
		shards := fitting(r, k, 9)
		for n := range shards {
			for i := range shards[n] {
				for _, x := range []byte{1, 0x80, 0xFF, byte(1 + r.IntN(255))} {
					shards[n][i] ^= x
					fit, e := c.Check(shards...)
					checks(t, "Check", fit, e, false, api.OK)
					shards[n][i] ^= x
				}
			}
		}
		fit, e := c.Check(shards...)
		checks(t, "Check of what was mended", fit, e, true, api.OK)
	}
}

func TestP604CheckFindsEachByte(t *testing.T) {
	r := rand.New(rand.NewPCG(604, 2))
	for _, k := range []int{1, 2, 3, 31, 32} {
		c := code(t, k)
		shards := fitting(r, k, 1)
		for n := range shards {
			for x := range 256 {
				was := shards[n][0]
				shards[n][0] = byte(x)
				fit, e := c.Check(shards...)
				checks(t, "Check", fit, e, byte(x) == was, api.OK)
				shards[n][0] = was
			}
		}
	}
}
