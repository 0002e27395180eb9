package rs_test

import (
	"bytes"
	"math/rand/v2"
	"slices"
	"testing"

	"flint/api"
	"flint/rs"
)

// A call is one of a code's that takes shards, with what it is handed.
type call struct {
	name string
	k    int
	in   [][]byte
	do   func(c *rs.Code, in [][]byte) ([][]byte, api.Errno)
}

func parity(c *rs.Code, in [][]byte) ([][]byte, api.Errno) {
	return c.Parity(in...)
}

func rebuild(c *rs.Code, in [][]byte) ([][]byte, api.Errno) {
	return c.Rebuild(in...)
}

func check(c *rs.Code, in [][]byte) ([][]byte, api.Errno) {
	_, e := c.Check(in...)
	return nil, e
}

func calls() []call {
	r := rand.New(rand.NewPCG(2, 6))
	whole := fitting(r, 3, 20)
	twin := []byte("twin")
	return []call{
		{"Parity", 3, whole[:3], parity},
		{"Parity of one", 1, whole[:1], parity},
		{"Parity of one byte", 1, [][]byte{{7}}, parity},
		{"Parity of twins", 2, [][]byte{twin, twin}, parity},
		{"Parity of uneven ones", 2, [][]byte{whole[0], twin}, parity},
		{"Rebuild of none", 3, whole, rebuild},
		{"Rebuild of twins", 1, [][]byte{twin, twin, twin}, rebuild},
		{"Rebuild of a shard", 3, without(whole, 1), rebuild},
		{"Rebuild of two shards", 3, without(whole, 0, 2), rebuild},
		{"Rebuild of a shard and parity", 3, without(whole, 0, 3), rebuild},
		{"Rebuild of parity", 3, without(whole, 3, 4), rebuild},
		{"Rebuild of copies", 1, [][]byte{nil, twin, nil}, rebuild},
		{"Rebuild of too few", 3, without(whole, 0, 1, 2), rebuild},
		{"Rebuild of uneven ones", 1, [][]byte{whole[0], twin, nil}, rebuild},
		{"Check", 3, whole, check},
		{"Check of what does not fit", 1, [][]byte{twin, twin, []byte("twim")}, check},
		{"Check of one missing", 3, without(whole, 2), check},
	}
}

// roomy tells shards that are as these are, with spare room behind them all and behind each, missing ones, too.
func roomy(in [][]byte) [][]byte {
	out := make([][]byte, 0, len(in)+50)
	for _, s := range in {
		out = append(out, append(make([]byte, 0, len(s)+300), s...))
	}
	return out
}

// all tells the shards with all spare room.
func all(in [][]byte) [][]byte {
	out := slices.Clone(in[:cap(in)])
	for i, s := range out {
		out[i] = bytes.Clone(s[:cap(s)])
	}
	return out
}

// scribble changes each byte, and the spare room, too.
func scribble(shards [][]byte) {
	for _, s := range shards {
		s = s[:cap(s)]
		for i := range s {
			s[i] ^= 0xA5
		}
	}
	clear(shards[:cap(shards)])
}

func TestP2NothingHandedInIsChanged(t *testing.T) {
	for _, c := range calls() {
		in := roomy(c.in)
		was := all(in)
		answer, _ := c.do(code(t, c.k), in)
		if !equal(all(in), was) {
			t.Errorf("%s changes what it is handed", c.name)
		}
		scribble(answer)
		if !equal(all(in), was) {
			t.Errorf("%s answers what it was handed", c.name)
		}
	}
}

func TestP2NothingHandedInIsKept(t *testing.T) {
	for _, c := range calls() {
		in := roomy(c.in)
		one := code(t, c.k)
		answer, e := c.do(one, in)
		want := all(answer)
		scribble(in)
		if !equal(all(answer), want) {
			t.Errorf("%s answers what it was handed", c.name)
		}
		again, f := c.do(one, c.in)
		if !equal(again, answer) || f != e {
			t.Errorf("%s keeps what it was handed", c.name)
		}
	}
}

func TestP2AnswersShareNothing(t *testing.T) {
	for _, c := range calls() {
		one := code(t, c.k)
		first, _ := c.do(one, c.in)
		second, _ := c.do(one, c.in)
		want := all(second)
		scribble(first)
		if !equal(all(second), want) {
			t.Errorf("%s: two answers share memory", c.name)
		}
	}
}

func TestP2ShardsOfAnAnswerShareNothing(t *testing.T) {
	for _, c := range calls() {
		answer, _ := c.do(code(t, c.k), c.in)
		for n := range answer {
			rest := slices.Delete(slices.Clone(answer), n, n+1)
			was := all(rest)
			scribble([][]byte{answer[n]})
			if !equal(all(rest), was) {
				t.Errorf("%s: shard %d shares memory with another one", c.name, n)
			}
		}
	}
}

func TestP3P5P7CallsChangeNoCode(t *testing.T) {
	codes := map[int]*rs.Code{}
	for k := 1; k <= 3; k++ {
		codes[k] = code(t, k)
	}
	for _, a := range calls() {
		for _, b := range calls() {
			want, e := a.do(code(t, a.k), a.in)
			b.do(codes[b.k], b.in)
			got, f := a.do(codes[a.k], roomy(a.in))
			if !equal(got, want) || e != f || codes[a.k].K() != a.k {
				t.Errorf("%s behind %s: % x, %v; want % x, %v", a.name, b.name, got, f, want, e)
			}
		}
	}
}

func TestP7EachCodeIsAnother(t *testing.T) {
	if code(t, 2) == code(t, 2) {
		t.Errorf("New answers one code twice")
	}
}

// ragged tells any lists, most of which are no right shards.
func ragged(r *rand.Rand) [][]byte {
	shards := random(r, r.IntN(7), r.IntN(4))
	for range r.IntN(4) {
		if len(shards) > 0 {
			shards[r.IntN(len(shards))] = make([]byte, r.IntN(4))
		}
	}
	return shards
}

// right tells whether there are n shards, those that have bytes equally long.
func right(shards [][]byte, n int) bool {
	sizes := map[int]bool{}
	for _, s := range shards {
		if len(s) > 0 {
			sizes[len(s)] = true
		}
	}
	return len(shards) == n && len(sizes) < 2
}

func TestP1P4AnyShardsAreTaken(t *testing.T) {
	r := rand.New(rand.NewPCG(1, 6))
	for range 20000 {
		shards := ragged(r)
		c := code(t, 1+r.IntN(5))
		_, missing := numbers(shards)
		p, e := c.Parity(shards...)
		if fine := right(shards, c.K()) && len(missing) == 0; fine != (e == api.OK) || fine != (len(p) == 2) || !fine && (len(p) != 0 || e != api.ErrArg) {
			t.Errorf("Parity of % x: % x, %v", shards, p, e)
		}
		want := api.OK
		if !right(shards, c.K()+2) {
			want = api.ErrArg
		} else if len(missing) > 2 {
			want = api.ErrLost
		}
		made, e := c.Rebuild(shards...)
		if e != want || (len(made) != 0) != (want == api.OK) {
			t.Errorf("Rebuild of % x: % x, %v; want %v", shards, made, e, want)
		}
		fit, e := c.Check(shards...)
		if fine := right(shards, c.K()+2) && len(missing) == 0; fine != (e == api.OK) || !fine && (fit || e != api.ErrArg) {
			t.Errorf("Check of % x: %v, %v", shards, fit, e)
		}
	}
}

func TestP1VeryManyShardsAreTaken(t *testing.T) {
	many := make([][]byte, 1<<20)
	for _, k := range []int{1, 32} {
		for _, do := range []func(*rs.Code, [][]byte) ([][]byte, api.Errno){parity, rebuild, check} {
			got, e := do(code(t, k), many)
			fails(t, "of very many", got, e, api.ErrArg)
		}
	}
}

// A code that New did not make has no shards that hold bytes.
func TestP1ACodeThatNewDidNotMake(t *testing.T) {
	var c rs.Code
	for n := range 4 {
		for _, shards := range [][][]byte{make([][]byte, n), slices.Repeat([][]byte{{1}}, n)} {
			c.Rebuild(shards...)
			p, e := c.Parity(shards...)
			fails(t, "Parity", p, e, api.ErrArg)
			fit, e := c.Check(shards...)
			checks(t, "Check", fit, e, false, api.ErrArg)
		}
	}
}
