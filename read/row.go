package read

import (
	"bytes"
	"slices"

	"flint/api"
	"flint/rs"
	"flint/seg"
)

// told tells what Row does, of a row that there is.
func told(src Source, s seg.Shape, id uint64, row int) ([][]byte, []Bad, api.Errno) {
	all := payloads(src, s, id, row, 0, s.K+parity)
	var whole [][]byte
	var e api.Errno
	if row == 0 {
		whole, e = heads(s.K, all)
	} else {
		whole, e = stream(s.K, all)
	}
	if e != api.OK {
		return nil, nil, e
	}
	return whole, badOf(row, all), api.OK
}

// part tells the bytes from at on, below end, which lie all in one row; and what is bad of that.
func part(src Source, s seg.Shape, id uint64, at, end int) ([]byte, []Bad, api.Errno) {
	row, first, off, e := seg.Where(s, at)
	if e != api.OK {
		return nil, nil, e
	}
	_, last, _, e := seg.Where(s, end-1)
	if e != api.OK {
		return nil, nil, e
	}
	var bad []Bad
	found := payloads(src, s, id, row, first, last+1)
	if slices.ContainsFunc(found, isBad) {
		whole, more, e := told(known{src, row, first, found}, s, id, row)
		if e != api.OK {
			return nil, nil, e
		}
		found, bad = whole[first:last+1], more
	}
	return slices.Concat(found...)[off : off+end-at], bad, api.OK
}

// heads tells the payload of row 0, k times, of which one that is not bad is enough.
func heads(k int, all [][]byte) ([][]byte, api.Errno) {
	for _, payload := range all {
		if !isBad(payload) {
			whole := make([][]byte, k)
			for i := range whole {
				whole[i] = bytes.Clone(payload)
			}
			return whole, api.OK
		}
	}
	return nil, api.ErrLost
}

// stream tells the k payloads of another row that hold bytes.
func stream(k int, all [][]byte) ([][]byte, api.Errno) {
	if !slices.ContainsFunc(all[:k], isBad) { // then at most the two of parity are
		return all[:k:k], api.OK
	}
	whole, e := made(k, all)
	if e != api.OK {
		return nil, e
	}
	return whole[:k:k], api.OK
}

// made tells all payloads of such a row, up to two bad ones made of the others.
func made(k int, all [][]byte) ([][]byte, api.Errno) {
	code, e := rs.New(k)
	if e != api.OK {
		return nil, e
	}
	return code.Rebuild(all...)
}

// badOf tells which of a row's payloads are bad.
func badOf(row int, all [][]byte) []Bad {
	var bad []Bad
	for shard, payload := range all {
		if isBad(payload) {
			bad = append(bad, Bad{Shard: shard, Row: row})
		}
	}
	return bad
}
