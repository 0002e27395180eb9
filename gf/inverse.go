package gf

import (
	"bytes"

	"flint/api"
)

// step is one of a matrix's row operations; each heeds what it needs of these.
type step func(m Matrix, row, other int, factor byte)

// Inverse tells the matrix that is Unit when it is multiplied with m.
func (m Matrix) Inverse() (Matrix, api.Errno) {
	if !Right(m) || len(m) != len(m[0]) {
		return nil, api.ErrArg
	}
	left := m.each(bytes.Clone)
	right, _ := Unit(len(m))
	both := func(s step, row, other int, factor byte) {
		s(left, row, other, factor)
		s(right, row, other, factor)
	}
	for i := range left {
		pivot := left.pivot(i)
		if pivot < 0 {
			return nil, api.ErrNone
		}
		both(Matrix.swap, i, pivot, 1)
		inverse, _ := Pow(left[i][i], -1)
		both(Matrix.scale, i, i, inverse)
		for row := range left {
			if row != i { // what is added to itself is 0: so column i is cleared
				both(Matrix.add, row, i, left[row][i])
			}
		}
	}
	return right, api.OK
}

// pivot tells the first row from n on that has something in column n; -1, if none has.
func (m Matrix) pivot(n int) int {
	for row := n; row < len(m); row++ {
		if m[row][n] != 0 {
			return row
		}
	}
	return -1
}

// swap lets two rows change places.
func (m Matrix) swap(row, other int, _ byte) {
	m[row], m[other] = m[other], m[row]
}

// scale multiplies a row.
func (m Matrix) scale(row, _ int, factor byte) {
	for j, x := range m[row] {
		m[row][j] = Mul(x, factor)
	}
}

// add adds to a row another one, multiplied.
func (m Matrix) add(row, other int, factor byte) {
	for j, x := range m[other] {
		m[row][j] = Add(m[row][j], Mul(x, factor))
	}
}
