package rs

import "flint/gf"

// remade tells the missing ones of all, made of the k whose numbers first tells.
func (c *Code) remade(all [][]byte, first, missing []int) [][]byte {
	if len(missing) == 0 {
		return nil // a matrix has at least one row
	}
	rows := append(must(gf.Unit(c.k)), must(gf.Pairs(c.k))...)
	undo := must(must(rows.Rows(first...)).Inverse())
	way := must(must(rows.Rows(missing...)).Times(undo))
	sources := make([][]byte, c.k)
	for i, n := range first {
		sources[i] = all[n]
	}
	return times(way, sources...)
}

// times tells, place by place, m times what the lists have there.
func times(m gf.Matrix, lists ...[]byte) [][]byte {
	made := make([][]byte, len(m))
	for i, row := range m {
		made[i] = make([]byte, len(lists[0]))
		for j, factor := range row {
			add(made[i], factor, lists[j])
		}
	}
	return made
}

// add adds to sum a list, multiplied.
func add(sum []byte, factor byte, list []byte) {
	low, high := products(factor)
	for i, x := range list {
		sum[i] = gf.Add(sum[i], gf.Add(low[x&15], high[x>>4]))
	}
}

// products tells factor times each half byte, a low or a high one; a byte's
// product is the sum of two, so a long list takes but few calls of gf.Mul.
func products(factor byte) (low, high [16]byte) {
	for i := range low {
		low[i] = gf.Mul(factor, byte(i))
		high[i] = gf.Mul(factor, byte(i)<<4)
	}
	return low, high
}
