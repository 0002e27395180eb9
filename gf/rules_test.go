package gf_test

import (
	"bytes"
	"math"
	"math/rand/v2"
	"slices"
	"strconv"
	"testing"

	"flint/api"
	"flint/gf"
)

// A call is one of the faces that takes or answers lists, with what it is handed.
type call struct {
	name string
	in   []gf.Matrix
	do   func(in []gf.Matrix) (gf.Matrix, api.Errno)
}

func calls() []call {
	r := rand.New(rand.NewPCG(2, 2))
	twin := []byte{7, 9}
	twins := gf.Matrix{twin, twin, twin}
	square := gf.Matrix{{0, 1, 2}, {3, 4, 5}, {6, 7, 9}}
	unit := func([]gf.Matrix) (gf.Matrix, api.Errno) { return gf.Unit(4) }
	pairs := func([]gf.Matrix) (gf.Matrix, api.Errno) { return gf.Pairs(4) }
	times := func(in []gf.Matrix) (gf.Matrix, api.Errno) { return in[0].Times(in[1]) }
	twice := func(in []gf.Matrix) (gf.Matrix, api.Errno) { return in[0].Times(in[0]) }
	inverse := func(in []gf.Matrix) (gf.Matrix, api.Errno) { return in[0].Inverse() }
	some := func(in []gf.Matrix) (gf.Matrix, api.Errno) { return in[0].Rows(1, 0, 1, 1) }
	apply := func(in []gf.Matrix) (gf.Matrix, api.Errno) {
		v, e := in[0].Apply(in[1][0])
		return gf.Matrix{v}, e
	}
	right := func(in []gf.Matrix) (gf.Matrix, api.Errno) {
		if !gf.Right(in[0]) {
			return nil, api.ErrArg
		}
		return nil, api.OK
	}
	return []call{
		{"Unit", nil, unit},
		{"Pairs", nil, pairs},
		{"Right", []gf.Matrix{square}, right},
		{"Times", []gf.Matrix{random(r, 4, 5), random(r, 5, 3)}, times},
		{"Times of one row", []gf.Matrix{{{1}}, {{5, 6}}}, times},
		{"Times itself", []gf.Matrix{square}, twice},
		{"Times twins", []gf.Matrix{square, twins}, times},
		{"Apply", []gf.Matrix{square, {{3, 2, 1}}}, apply},
		{"Inverse", []gf.Matrix{square}, inverse},
		{"Inverse of the smallest", []gf.Matrix{{{1}}}, inverse},
		{"Inverse that is none", []gf.Matrix{{twin, twin}}, inverse},
		{"Rows", []gf.Matrix{square}, some},
		{"Rows of twins", []gf.Matrix{twins}, some},
	}
}

// roomy tells matrices that are as these are, with spare room behind them and behind their rows.
func roomy(in []gf.Matrix) []gf.Matrix {
	var out []gf.Matrix
	for _, m := range in {
		c := make(gf.Matrix, 0, len(m)+300)
		for _, row := range m {
			c = append(c, append(make([]byte, 0, len(row)+300), row...))
		}
		out = append(out, c)
	}
	return out
}

// all tells the matrices with all spare room.
func all(in []gf.Matrix) []gf.Matrix {
	var out []gf.Matrix
	for _, m := range in {
		c := slices.Clone(m[:cap(m)])
		for i, row := range c {
			c[i] = bytes.Clone(row[:cap(row)])
		}
		out = append(out, c)
	}
	return out
}

// scribble changes each element of m, and the spare room, too.
func scribble(m gf.Matrix) {
	for _, row := range m {
		row = row[:cap(row)]
		for j := range row {
			row[j] ^= 0xA5
		}
	}
	clear(m[:cap(m)])
}

func same(a, b []gf.Matrix) bool {
	return slices.EqualFunc(a, b, equal)
}

func TestP2NothingHandedInIsChanged(t *testing.T) {
	for _, c := range calls() {
		in := roomy(c.in)
		was := all(in)
		answer, _ := c.do(in)
		if !same(all(in), was) {
			t.Errorf("%s changes what it is handed", c.name)
		}
		scribble(answer)
		if !same(all(in), was) {
			t.Errorf("%s answers what it was handed", c.name)
		}
	}
}

func TestP2NothingHandedInIsKept(t *testing.T) {
	for _, c := range calls() {
		in := roomy(c.in)
		answer, _ := c.do(in)
		want := all([]gf.Matrix{answer})
		for _, m := range in {
			scribble(m)
		}
		if !same(all([]gf.Matrix{answer}), want) {
			t.Errorf("%s keeps what it was handed", c.name)
		}
	}
}

func TestP2AnswersShareNothing(t *testing.T) {
	for _, c := range calls() {
		first, _ := c.do(c.in)
		second, _ := c.do(c.in)
		want := all([]gf.Matrix{second})
		scribble(first)
		if !same(all([]gf.Matrix{second}), want) {
			t.Errorf("%s: two answers share memory", c.name)
		}
	}
}

func TestP2RowsOfAnAnswerShareNothing(t *testing.T) {
	for _, c := range calls() {
		answer, _ := c.do(c.in)
		for i := range answer {
			rest := slices.Delete(slices.Clone(answer), i, i+1)
			was := all([]gf.Matrix{rest})
			row := answer[i][:cap(answer[i])]
			for j := range row {
				row[j] ^= 0x5A
			}
			if !same(all([]gf.Matrix{rest}), was) {
				t.Errorf("%s: row %d shares memory with another one", c.name, i)
			}
		}
	}
}

func TestP2NumbersHandedInAreNotChanged(t *testing.T) {
	n := append(make([]int, 0, 9), 2, 0, 1)
	was := slices.Clone(n[:9])
	rows("ab", "cd", "ef").Rows(n...)
	if !slices.Equal(n[:9], was) {
		t.Errorf("%v; before %v", n[:9], was)
	}
}

func TestP3SameCallsSameAnswers(t *testing.T) {
	type told struct {
		m gf.Matrix
		e api.Errno
	}
	var want []told
	for _, c := range calls() {
		m, e := c.do(c.in)
		want = append(want, told{m, e})
	}
	for i, c := range calls() {
		if m, e := c.do(roomy(c.in)); !equal(m, want[i].m) || e != want[i].e {
			t.Errorf("%s: % x, %v; before % x, %v", c.name, m, e, want[i].m, want[i].e)
		}
	}
}

// askAll asks all calls of two matrices; what is an error must tell nothing beside it, what is none a right matrix.
func askAll(t *testing.T, m, o gf.Matrix, n []int) {
	t.Helper()
	check := func(what string, got gf.Matrix, e api.Errno) {
		t.Helper()
		if e != api.OK && len(got) != 0 || e == api.OK && !gf.Right(got) {
			t.Errorf("%s of % x and % x: % x beside %v", what, m, o, got, e)
		}
	}
	got, e := m.Times(o)
	check("Times", got, e)
	got, e = m.Inverse()
	check("Inverse", got, e)
	got, e = m.Rows(n...)
	check("Rows", got, e)
	for _, row := range append(gf.Matrix{nil}, o...) {
		if v, e := m.Apply(row); e != api.OK && len(v) != 0 || e == api.OK && len(v) != len(m) {
			t.Errorf("Apply of % x to % x: % x beside %v", m, row, v, e)
		}
	}
}

// ragged tells any lists of lists, most of which are not right.
func ragged(r *rand.Rand) gf.Matrix {
	height, width := r.IntN(5), r.IntN(5)
	m := random(r, height, width)
	if height > 0 && r.IntN(3) == 0 {
		m[r.IntN(height)] = make([]byte, r.IntN(6))
	}
	if height > 0 && r.IntN(4) == 0 {
		m[r.IntN(height)] = nil
	}
	return m
}

func TestP1P4AnyMatricesAreTaken(t *testing.T) {
	r := rand.New(rand.NewPCG(1, 4))
	for range 5000 {
		askAll(t, ragged(r), ragged(r), r.Perm(r.IntN(6)))
	}
	for what, m := range crooked() {
		for other, o := range crooked() {
			if gf.Right(m) || gf.Right(o) {
				t.Errorf("%s, %s: is not right", what, other)
			}
			askAll(t, m, o, []int{math.MinInt, 0, math.MaxInt})
		}
	}
}

func TestP1AnyNumbersAreTaken(t *testing.T) {
	edges := []int{math.MinInt, math.MinInt + 1, math.MinInt32, -256, -255, -254, -1, 0, 1, 2, 254, 255, 256, 1 << 16, math.MaxInt32, math.MaxInt - 1, math.MaxInt}
	for _, n := range edges {
		for a := range 256 {
			p, e := gf.Pow(byte(a), n)
			if wrong := a == 0 && n < 0; wrong != (e != api.OK) || wrong && p != 0 || a != 0 && p == 0 {
				t.Errorf("Pow(%#x, %d): %#x, %v", a, n, p, e)
			}
		}
		u, e := gf.Unit(n)
		p, why := gf.Pairs(n)
		if right := n >= 1 && n <= 255; right != gf.Right(u) || right != gf.Right(p) || right != (e == api.OK) || e != why {
			t.Errorf("Unit, Pairs(%d): %v, %v", n, e, why)
		}
		rows("ab", "cd").Rows(n)
	}
}

func TestP5ErrorsChangeNothing(t *testing.T) {
	for n := 2; n < 6; n++ {
		m := even(n, n, 3)
		m[0][0] = 0 // so that rows must change places ahead of it being told that there is no inverse
		m[1] = bytes.Clone(m[0])
		was := all([]gf.Matrix{m})
		got, e := m.Inverse()
		fails(t, "Inverse, "+strconv.Itoa(n), got, e, api.ErrNone)
		if now := all([]gf.Matrix{m}); !same(now, was) {
			t.Errorf("% x; before % x", now, was)
		}
	}
}
