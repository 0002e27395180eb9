package gf_test

import (
	"math/rand/v2"
	"slices"
	"testing"

	"flint/api"
	"flint/gf"
)

// undoes asks that m has an inverse, and that it is one from both sides.
func undoes(t *testing.T, m gf.Matrix) {
	t.Helper()
	inverse, e := m.Inverse()
	if e != api.OK || !gf.Right(inverse) {
		t.Fatalf("Inverse of % x: % x, %v", m, inverse, e)
	}
	unit, _ := gf.Unit(len(m))
	got, e := m.Times(inverse)
	is(t, "times its inverse", got, e, unit)
	got, e = inverse.Times(m)
	is(t, "its inverse times", got, e, unit)
}

// determinant tells m's, by its first row; where a sum is the difference no sign changes.
func determinant(m gf.Matrix) byte {
	if len(m) == 0 {
		return 1
	}
	d := byte(0)
	for j, x := range m[0] {
		var rest gf.Matrix
		for _, row := range m[1:] {
			rest = append(rest, slices.Delete(slices.Clone(row), j, j+1))
		}
		d ^= product(int(x), int(determinant(rest)))
	}
	return d
}

func TestP503InverseOfOne(t *testing.T) {
	for a := 1; a < 256; a++ {
		want, _ := gf.Div(1, byte(a))
		m, e := gf.Matrix{{byte(a)}}.Inverse()
		is(t, "Inverse", m, e, gf.Matrix{{want}})
	}
	m, e := gf.Matrix{{0}}.Inverse()
	fails(t, "Inverse of 0", m, e, api.ErrNone)
}

func TestP503Inverse(t *testing.T) {
	m, e := gf.Matrix{{1, 1}, {1, 2}}.Inverse()
	is(t, "of Pairs", m, e, gf.Matrix{{0xF5, 0xF4}, {0xF4, 0xF4}})
	m, e = gf.Matrix{{0, 1, 0}, {0, 0, 1}, {1, 0, 0}}.Inverse()
	is(t, "of rows that changed places", m, e, gf.Matrix{{0, 0, 1}, {1, 0, 0}, {0, 1, 0}})
	undoes(t, gf.Matrix{{0, 2}, {3, 0}})
	undoes(t, gf.Matrix{{1, 1, 5}, {1, 1, 6}, {7, 0, 0}})
	undoes(t, gf.Matrix{{0, 0, 0, 9}, {0, 0, 8, 1}, {0, 7, 1, 1}, {6, 1, 1, 1}})
}

func TestP503InverseIsThereOrNot(t *testing.T) {
	r := rand.New(rand.NewPCG(503, 4))
	var there, not int
	for range 2000 {
		n := 1 + r.IntN(5)
		m := random(r, n, n)
		for i := range m {
			for j := range m[i] {
				m[i][j] &= 3 // few elements, so that both kinds come
			}
		}
		if determinant(m) == 0 {
			got, e := m.Inverse()
			fails(t, "Inverse", got, e, api.ErrNone)
			not++
			continue
		}
		undoes(t, m)
		there++
	}
	if there < 300 || not < 300 {
		t.Errorf("%d have one, %d have none", there, not)
	}
}

func TestP503InverseThatIsNotThere(t *testing.T) {
	r := rand.New(rand.NewPCG(503, 5))
	for n := 1; n <= 12; n++ {
		got, e := even(n, n, 0).Inverse()
		fails(t, "of noughts", got, e, api.ErrNone)
		m := random(r, n, n)
		sum := make([]byte, n)
		for i, row := range m[:n-1] {
			for j, x := range row {
				sum[j] = gf.Add(sum[j], gf.Mul(x, byte(i+2)))
			}
		}
		m[n-1] = sum
		got, e = m.Inverse()
		fails(t, "of a row that is a sum", got, e, api.ErrNone)
		m = random(r, n, n)
		for i := range m {
			m[i][n/2] = 0
		}
		got, e = m.Inverse()
		fails(t, "of a column of noughts", got, e, api.ErrNone)
	}
	got, e := even(255, 255, 1).Inverse()
	fails(t, "of equal rows", got, e, api.ErrNone)
}

func TestP503InverseOfWhatMayNotBe(t *testing.T) {
	for what, wrong := range crooked() {
		got, e := wrong.Inverse()
		fails(t, what, got, e, api.ErrArg)
	}
	for _, m := range []gf.Matrix{rows("ab"), rows("a", "b"), rows("abc", "def"), rows("ab", "cd", "ef"), even(3, 4, 0), even(255, 254, 1), even(254, 255, 1)} {
		got, e := m.Inverse()
		fails(t, "not square", got, e, api.ErrArg)
	}
}

func TestP505InverseOfGreatOnes(t *testing.T) {
	r := rand.New(rand.NewPCG(505, 1))
	for _, n := range []int{16, 33, 64, 255} {
		m := random(r, n, n)
		for i := range m { // noughts on one side, so that it surely has one
			for j := range i {
				m[i][j] = 0
			}
			m[i][i] |= 1
		}
		other := random(r, n, n)
		for i := range other {
			for j := i + 1; j < n; j++ {
				other[i][j] = 0
			}
			other[i][i] |= 1
		}
		both, e := m.Times(other)
		if e != api.OK {
			t.Fatal(e)
		}
		undoes(t, both)
	}
}

// stripe tells the k rows of Unit with the two of Pairs below, but for two of them.
func stripe(t *testing.T, k, one, two int) gf.Matrix {
	t.Helper()
	unit, _ := gf.Unit(k)
	pairs, _ := gf.Pairs(k)
	var m gf.Matrix
	for i, row := range append(unit, pairs...) {
		if i != one && i != two {
			m = append(m, row)
		}
	}
	return m
}

func TestP505RowsOfUnitAndPairs(t *testing.T) {
	for k := 1; k <= 18; k++ {
		for one := range k + 2 {
			for two := one + 1; two < k+2; two++ {
				undoes(t, stripe(t, k, one, two))
			}
		}
	}
	for _, k := range []int{32, 100, 254, 255} {
		for _, p := range [][2]int{{0, 1}, {0, k - 1}, {k - 2, k - 1}, {0, k}, {k - 1, k + 1}, {k / 2, k}, {k, k + 1}} {
			undoes(t, stripe(t, k, p[0], p[1]))
		}
	}
}

func TestP505RowsInAnyOrder(t *testing.T) {
	r := rand.New(rand.NewPCG(505, 2))
	for range 200 {
		k := 1 + r.IntN(16)
		unit, _ := gf.Unit(k)
		pairs, _ := gf.Pairs(k)
		m, e := append(unit, pairs...).Rows(r.Perm(k + 2)[:k]...)
		if e != api.OK {
			t.Fatal(e)
		}
		undoes(t, m)
	}
}
