package gf

import (
	"bytes"

	"flint/api"
)

// most is how many rows, and how many columns, a matrix may have.
const most = 255

// Matrix is rows of elements.
type Matrix [][]byte

// fits tells whether there may be n rows, or columns.
func fits(n int) bool {
	return n >= 1 && n <= most
}

// Right tells whether m is a matrix at all: rows, equally long.
func Right(m Matrix) bool {
	if !fits(len(m)) {
		return false
	}
	for _, row := range m {
		if len(row) != len(m[0]) {
			return false
		}
	}
	return fits(len(m[0]))
}

// blank tells a matrix of noughts; its rows share no memory.
func blank(rows, columns int) Matrix {
	m := make(Matrix, rows)
	for i := range m {
		m[i] = make([]byte, columns)
	}
	return m
}

// Unit tells the matrix of n rows that changes nothing.
func Unit(n int) (Matrix, api.Errno) {
	if !fits(n) {
		return nil, api.ErrArg
	}
	m := blank(n, n)
	for i := range m {
		m[i][i] = 1
	}
	return m, api.OK
}

// Pairs tells two rows: of 1, and of the powers of 2.
func Pairs(columns int) (Matrix, api.Errno) {
	if !fits(columns) {
		return nil, api.ErrArg
	}
	m := blank(2, columns)
	power := x0
	for j := range columns {
		m[0][j], m[1][j] = 1, power
		power = twice(power)
	}
	return m, api.OK
}

// Times tells the product.
func (m Matrix) Times(o Matrix) (Matrix, api.Errno) {
	if !Right(m) || !Right(o) || len(m[0]) != len(o) {
		return nil, api.ErrArg
	}
	return o.turned().each(m.apply).turned(), api.OK
}

// Apply tells m times v.
func (m Matrix) Apply(v []byte) ([]byte, api.Errno) {
	if !Right(m) || len(v) != len(m[0]) {
		return nil, api.ErrArg
	}
	return m.apply(v), api.OK
}

// apply does so where they fit each other.
func (m Matrix) apply(v []byte) []byte {
	sums := make([]byte, len(m))
	for i, row := range m {
		for j, x := range row {
			sums[i] = Add(sums[i], Mul(x, v[j]))
		}
	}
	return sums
}

// each tells what do makes of the rows.
func (m Matrix) each(do func([]byte) []byte) Matrix {
	made := make(Matrix, len(m))
	for i, row := range m {
		made[i] = do(row)
	}
	return made
}

// turned tells the matrix whose rows are m's columns.
func (m Matrix) turned() Matrix {
	t := blank(len(m[0]), len(m))
	for i, row := range m {
		for j, x := range row {
			t[j][i] = x
		}
	}
	return t
}

// Rows tells the rows with these numbers.
func (m Matrix) Rows(n ...int) (Matrix, api.Errno) {
	if !Right(m) || !fits(len(n)) {
		return nil, api.ErrArg
	}
	rows := make(Matrix, len(n))
	for i, row := range n {
		if row < 0 || row >= len(m) {
			return nil, api.ErrArg
		}
		rows[i] = bytes.Clone(m[row])
	}
	return rows, api.OK
}
