package rs_test

import (
	"math/rand/v2"
	"slices"
	"testing"

	"flint/api"
)

// numbers tells which shards of a list are there, and which are missing.
func numbers(shards [][]byte) (there, missing []int) {
	for n, s := range shards {
		if len(s) == 0 {
			missing = append(missing, n)
		} else {
			there = append(there, n)
		}
	}
	return there, missing
}

// completed tells what Rebuild must of shards of one byte: all bytes that missing ones that hold some may have are tried, till those of the first k that are parity fit.
func completed(shards [][]byte) [][]byte {
	k := len(shards) - 2
	there, missing := numbers(shards)
	column := make([]byte, k)
	var unknown []int
	for n, s := range shards[:k] {
		if len(s) == 0 {
			unknown = append(unknown, n)
		} else {
			column[n] = s[0]
		}
	}
	for try := range 1 << (8 * len(unknown)) {
		for i, n := range unknown {
			column[n] = byte(try >> (8 * i))
		}
		p, q := sums(column)
		word := append(slices.Clone(column), p, q)
		fits := true
		for _, n := range there[:k] {
			fits = fits && word[n] == shards[n][0]
		}
		if fits {
			all := slices.Clone(shards)
			for _, n := range missing {
				all[n] = []byte{word[n]}
			}
			return all
		}
	}
	return nil
}

func TestP603RebuildOfNoneMissing(t *testing.T) {
	r := rand.New(rand.NewPCG(603, 11))
	for k := 1; k <= mostK; k++ {
		for _, size := range []int{1, 2, 13, 256} {
			shards := fitting(r, k, size)
			all, e := code(t, k).Rebuild(shards...)
			is(t, "of those that fit", all, e, shards)
			shards = random(r, k+2, size)
			all, e = code(t, k).Rebuild(shards...)
			is(t, "of those that do not", all, e, shards)
		}
	}
}

func TestP603RebuildExamples(t *testing.T) {
	want := [][]byte{{5}, {6}, {3}, {9}}
	for a := range want {
		for b := range want {
			all, e := code(t, 2).Rebuild(without(want, a, b)...)
			is(t, "Rebuild", all, e, want)
		}
	}
	all, e := code(t, 1).Rebuild(nil, nil, []byte("ab"))
	is(t, "of one", all, e, [][]byte{[]byte("ab"), []byte("ab"), []byte("ab")})
	all, e = code(t, 1).Rebuild([]byte("ab"), nil, []byte("cd"))
	is(t, "of two", all, e, [][]byte{[]byte("ab"), []byte("ab"), []byte("cd")})
	all, e = code(t, 1).Rebuild([]byte{}, []byte("ab"), []byte("cd"))
	is(t, "of two of parity", all, e, [][]byte{[]byte("ab"), []byte("ab"), []byte("cd")})
}

// Shards that do not fit each other show which of them the missing ones are made of.
func TestP603RebuildOfTheFirstThatAreThere(t *testing.T) {
	r := rand.New(rand.NewPCG(603, 12))
	for k := 1; k <= 5; k++ {
		c := code(t, k)
		for a := range k + 2 {
			for b := range a + 1 {
				shards := without(random(r, k+2, 1), a, b)
				all, e := c.Rebuild(shards...)
				is(t, "Rebuild", all, e, completed(shards))
			}
		}
	}
}

// Where one is missing, the last of the k + 1 others is not needed: what it has changes nothing else.
func TestP603RebuildDoesNotHeedTheLast(t *testing.T) {
	r := rand.New(rand.NewPCG(603, 13))
	for k := 1; k <= mostK; k++ {
		want := fitting(r, k, 7)
		for n := range want {
			last := k + 1
			if n == last {
				last = k
			}
			bent := slices.Clone(want)
			bent[last] = random(r, 1, 7)[0]
			wanted := slices.Clone(bent)
			if n == k+1 {
				wanted[n] = parityOf(bent[:k])[1]
			}
			all, e := code(t, k).Rebuild(without(bent, n)...)
			is(t, "Rebuild", all, e, wanted)
		}
	}
}

func TestP604RebuildOfAnyTwo(t *testing.T) {
	r := rand.New(rand.NewPCG(604, 11))
	for k := 1; k <= mostK; k++ {
		c := code(t, k)
		want := fitting(r, k, 5)
		for a := range want {
			for b := range a + 1 {
				all, e := c.Rebuild(without(want, a, b)...)
				is(t, "Rebuild", all, e, want)
			}
		}
	}
}

func TestP604RebuildOfAnyLength(t *testing.T) {
	r := rand.New(rand.NewPCG(604, 12))
	for _, k := range []int{1, 2, 3, 8, 32} {
		for _, size := range []int{1, 2, 13, 255, 256, 257, 4077, 1 << 16} {
			want := fitting(r, k, size)
			for range 4 {
				all, e := code(t, k).Rebuild(without(want, r.IntN(k+2), r.IntN(k+2))...)
				if e != api.OK || !equal(all, want) {
					t.Fatalf("k %d, %d bytes: others, %v", k, size, e)
				}
			}
		}
	}
}

func TestP603RebuildOfTooFew(t *testing.T) {
	r := rand.New(rand.NewPCG(603, 14))
	for k := 1; k <= mostK; k++ {
		c := code(t, k)
		shards := fitting(r, k, 4)
		for range 50 {
			n := 3 + r.IntN(k)
			all, e := c.Rebuild(without(shards, r.Perm(k + 2)[:n]...)...)
			fails(t, "too many missing", all, e, api.ErrLost)
		}
		all, e := c.Rebuild(make([][]byte, k+2)...)
		fails(t, "all missing", all, e, api.ErrLost)
		all, e = c.Rebuild(slices.Repeat([][]byte{{}}, k+2)...)
		fails(t, "all empty", all, e, api.ErrLost)
	}
}

func TestP603RebuildOfOtherThanAll(t *testing.T) {
	r := rand.New(rand.NewPCG(603, 15))
	for k := 1; k <= mostK; k++ {
		c := code(t, k)
		for n := range mostK + 5 {
			if n == k+2 {
				continue
			}
			all, e := c.Rebuild(random(r, n, 4)...)
			fails(t, "too few, too many", all, e, api.ErrArg)
			all, e = c.Rebuild(make([][]byte, n)...)
			fails(t, "all of them missing", all, e, api.ErrArg)
		}
	}
}

func TestP603RebuildOfUnevenShards(t *testing.T) {
	r := rand.New(rand.NewPCG(603, 16))
	for k := 1; k <= mostK; k++ {
		c := code(t, k)
		for n := range k + 2 {
			for _, size := range []int{1, 4, 6, 300} {
				shards := fitting(r, k, 5)
				shards[n] = make([]byte, size)
				all, e := c.Rebuild(shards...)
				fails(t, "uneven", all, e, api.ErrArg)
				all, e = c.Rebuild(without(shards, (n+1)%(k+2))...)
				fails(t, "uneven, one missing", all, e, api.ErrArg)
			}
		}
	}
}

func TestP603P6UnevenAheadOfTooFew(t *testing.T) {
	for k := 3; k <= mostK; k++ {
		shards := make([][]byte, k+2)
		shards[1], shards[k+1] = []byte("ab"), []byte("abc")
		all, e := code(t, k).Rebuild(shards...)
		fails(t, "uneven, too few", all, e, api.ErrArg)
	}
}
