package gf_test

import (
	"bytes"
	"math"
	"math/rand/v2"
	"slices"
	"strings"
	"testing"

	"flint/api"
	"flint/gf"
)

// rows tells a matrix: a text a row, a character an element.
func rows(l ...string) gf.Matrix {
	var m gf.Matrix
	for _, s := range l {
		m = append(m, []byte(s))
	}
	return m
}

// random tells a matrix that is the same one for the same r.
func random(r *rand.Rand, height, width int) gf.Matrix {
	var m gf.Matrix
	for range height {
		row := make([]byte, width)
		for j := range row {
			row[j] = byte(r.Uint32())
		}
		m = append(m, row)
	}
	return m
}

// even tells a matrix of equal elements.
func even(height, width int, x byte) gf.Matrix {
	var m gf.Matrix
	for range height {
		m = append(m, bytes.Repeat([]byte{x}, width))
	}
	return m
}

func equal(a, b gf.Matrix) bool {
	return slices.EqualFunc(a, b, bytes.Equal)
}

// is asks that a call answered this matrix.
func is(t *testing.T, what string, got gf.Matrix, e api.Errno, want gf.Matrix) {
	t.Helper()
	if e != api.OK || !equal(got, want) {
		t.Fatalf("%s: % x, %v; want % x", what, got, e, want)
	}
}

// fails asks that a call answered an error, and nothing beside it.
func fails(t *testing.T, what string, got gf.Matrix, e, want api.Errno) {
	t.Helper()
	if e != want || len(got) != 0 {
		t.Errorf("%s: % x, %v; want %v", what, got, e, want)
	}
}

// crooked are matrices that are not right.
func crooked() map[string]gf.Matrix {
	last := even(255, 255, 1)
	last[254] = last[254][:254]
	return map[string]gf.Matrix{
		"none":                 nil,
		"no rows":              {},
		"a row without any":    {nil},
		"two such":             {nil, {}},
		"a short row":          rows("ab", "c"),
		"a long row":           rows("ab", "cde"),
		"a short one in front": rows("a", "bc", "de"),
		"none in front":        rows("", "ab"),
		"none behind":          rows("ab", ""),
		"256 rows":             even(256, 1, 1),
		"256 columns":          even(1, 256, 1),
		"256 both":             even(256, 256, 1),
		"one short of 255":     last,
	}
}

func TestP502Right(t *testing.T) {
	for _, m := range []gf.Matrix{rows("a"), rows("ab", "cd"), rows("abc"), rows("a", "b", "c"), even(255, 1, 0), even(1, 255, 0), even(255, 255, 0)} {
		if !gf.Right(m) {
			t.Errorf("% x is right", m)
		}
	}
	for what, m := range crooked() {
		if gf.Right(m) {
			t.Errorf("%s: is not right", what)
		}
	}
}

func TestP502Unit(t *testing.T) {
	for n := 1; n <= 255; n++ {
		want := even(n, n, 0)
		for i := range want {
			want[i][i] = 1
		}
		m, e := gf.Unit(n)
		is(t, "Unit", m, e, want)
	}
}

func TestP502Pairs(t *testing.T) {
	for columns := 1; columns <= 255; columns++ {
		want := even(2, columns, 1)
		for j := 1; j < columns; j++ {
			want[1][j] = product(int(want[1][j-1]), 2)
		}
		m, e := gf.Pairs(columns)
		is(t, "Pairs", m, e, want)
	}
	m, e := gf.Pairs(3)
	is(t, "Pairs", m, e, gf.Matrix{{1, 1, 1}, {1, 2, 4}})
}

func TestP502NumbersThatMayNotBe(t *testing.T) {
	for _, n := range []int{math.MinInt, -255, -1, 0, 256, 257, 511, 1 << 32, 1<<32 + 1, math.MaxInt} {
		m, e := gf.Unit(n)
		fails(t, "Unit", m, e, api.ErrArg)
		m, e = gf.Pairs(n)
		fails(t, "Pairs", m, e, api.ErrArg)
	}
}

// times tells what Times must, element by element.
func times(a, b gf.Matrix) gf.Matrix {
	m := even(len(a), len(b[0]), 0)
	for i := range m {
		for j := range m[i] {
			for k := range b {
				m[i][j] ^= product(int(a[i][k]), int(b[k][j]))
			}
		}
	}
	return m
}

func TestP503Times(t *testing.T) {
	m, e := gf.Matrix{{1, 2}, {3, 4}}.Times(gf.Matrix{{5, 6, 7}, {8, 9, 10}})
	is(t, "by hand", m, e, gf.Matrix{{5 ^ 16, 6 ^ 18, 7 ^ 20}, {15 ^ 32, 10 ^ 36, 9 ^ 40}})
	r := rand.New(rand.NewPCG(503, 1))
	for range 300 {
		a, b, c := 1+r.IntN(9), 1+r.IntN(9), 1+r.IntN(9)
		x, y := random(r, a, b), random(r, b, c)
		m, e := x.Times(y)
		is(t, "Times", m, e, times(x, y))
	}
	for _, s := range [][3]int{{255, 1, 255}, {1, 255, 1}, {255, 255, 1}, {1, 255, 255}} {
		x, y := random(r, s[0], s[1]), random(r, s[1], s[2])
		m, e := x.Times(y)
		is(t, "Times at the edge", m, e, times(x, y))
	}
}

func TestP503TimesUnit(t *testing.T) {
	r := rand.New(rand.NewPCG(503, 2))
	x := random(r, 7, 255)
	small, _ := gf.Unit(7)
	great, _ := gf.Unit(255)
	m, e := small.Times(x)
	is(t, "Unit times", m, e, x)
	m, e = x.Times(great)
	is(t, "times Unit", m, e, x)
}

func TestP503TimesWhatMayNotBe(t *testing.T) {
	for what, wrong := range crooked() {
		for _, right := range []gf.Matrix{rows("a"), rows("ab"), rows("a", "b"), rows("ab", "cd"), even(255, 255, 1)} {
			m, e := wrong.Times(right)
			fails(t, what+", times", m, e, api.ErrArg)
			m, e = right.Times(wrong)
			fails(t, "times "+what, m, e, api.ErrArg)
		}
		m, e := wrong.Times(wrong)
		fails(t, what+", both", m, e, api.ErrArg)
	}
	for _, p := range [][2]gf.Matrix{
		{rows("ab"), rows("ab")}, {rows("ab", "cd"), rows("a")}, {rows("a"), rows("a", "b")},
		{rows("ab", "cd"), rows("a", "b", "c")}, {rows("abc", "def"), rows("ab", "cd")}, {even(3, 255, 1), even(254, 3, 1)},
	} {
		m, e := p[0].Times(p[1])
		fails(t, "Times of other shapes", m, e, api.ErrArg)
	}
}

func TestP503Apply(t *testing.T) {
	if v, e := (gf.Matrix{{1, 2, 4}, {0, 0, 1}}).Apply([]byte{1, 1, 0x80}); e != api.OK || !bytes.Equal(v, []byte{1 ^ 2 ^ 0x3A, 0x80}) {
		t.Errorf("by hand: % x, %v", v, e)
	}
	r := rand.New(rand.NewPCG(503, 3))
	for _, s := range [][2]int{{1, 1}, {1, 7}, {7, 1}, {5, 3}, {3, 5}, {255, 1}, {1, 255}, {255, 255}} {
		m, v := random(r, s[0], s[1]), random(r, s[1], 1)
		want := bytes.Join(times(m, v), nil)
		if got, e := m.Apply(bytes.Join(v, nil)); e != api.OK || !bytes.Equal(got, want) {
			t.Errorf("%d rows of %d: % x, %v; want % x", s[0], s[1], got, e, want)
		}
	}
}

func TestP503ApplyToWhatMayNotBe(t *testing.T) {
	none := func(what string, v []byte, e api.Errno) {
		if e != api.ErrArg || len(v) != 0 {
			t.Errorf("%s: % x, %v; want arg", what, v, e)
		}
	}
	for what, wrong := range crooked() {
		for _, n := range []int{0, 1, 2, 3, 255, 256} {
			v, e := wrong.Apply(make([]byte, n))
			none(what, v, e)
		}
	}
	m := rows("abc", "def")
	for _, n := range []int{0, 1, 2, 4, 6, 259} {
		v, e := m.Apply(make([]byte, n))
		none("other elements", v, e)
	}
	v, e := m.Apply(nil)
	none("nothing", v, e)
}

func TestP503Rows(t *testing.T) {
	m := rows("ab", "cd", "ef")
	for _, c := range []struct {
		n    []int
		want string
	}{{[]int{0}, "ab"}, {[]int{2}, "ef"}, {[]int{0, 1, 2}, "ab cd ef"}, {[]int{2, 0}, "ef ab"}, {[]int{1, 1, 0, 1}, "cd cd ab cd"}} {
		got, e := m.Rows(c.n...)
		is(t, "Rows", got, e, rows(strings.Fields(c.want)...))
	}
	many, great := slices.Repeat([]int{1}, 255), even(255, 255, 9)
	got, e := m.Rows(many...)
	is(t, "255 rows", got, e, rows(slices.Repeat([]string{"cd"}, 255)...))
	great[254][0] = 8
	got, e = great.Rows(254)
	is(t, "the last row", got, e, great[254:])
}

func TestP503RowsThatAreNone(t *testing.T) {
	m := rows("ab", "cd", "ef")
	for _, n := range [][]int{nil, {}, {-1}, {3}, {0, 3}, {-1, 0}, {0, 1, 2, 3}, {math.MinInt}, {math.MaxInt}, {0, math.MinInt}, {256}, {1 << 32}, slices.Repeat([]int{1}, 256), slices.Repeat([]int{7}, 256)} {
		got, e := m.Rows(n...)
		fails(t, "Rows", got, e, api.ErrArg)
	}
	for what, wrong := range crooked() {
		got, e := wrong.Rows(0)
		fails(t, what, got, e, api.ErrArg)
		got, e = wrong.Rows()
		fails(t, what+", no row", got, e, api.ErrArg)
	}
}
