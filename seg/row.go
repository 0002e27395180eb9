package seg

import (
	"slices"

	"flint/api"
	"flint/frame"
	"flint/rs"
)

// Heads, Pages tell a row's pages.
func Heads(s Shape, id uint64) ([][]byte, api.Errno) {
	if e := Check(s); e != api.OK {
		return nil, e
	}
	var shape []byte
	for _, n := range []int{s.K, s.Pages, s.Page} {
		shape = frame.Number(shape, uint64(n))
	}
	return pages(s, id, 0, slices.Repeat([][]byte{shape}, s.K+parity))
}

func Pages(s Shape, id uint64, row int, data []byte) ([][]byte, api.Errno) {
	if e := Check(s); e != api.OK {
		return nil, e
	}
	if row < 1 || row >= s.Pages {
		return nil, api.ErrArg
	}
	if len(data) > Row(s) {
		return nil, api.ErrLong
	}
	whole := make([]byte, Row(s))
	copy(whole, data)
	payloads := cut(whole, frame.Room(s.Page))
	code, e := rs.New(s.K)
	if e != api.OK {
		return nil, e
	}
	sums, e := code.Parity(payloads...)
	if e != api.OK {
		return nil, e
	}
	return pages(s, id, row, append(payloads, sums...))
}

// pages tells those of a row that has these payloads, shard by shard.
func pages(s Shape, id uint64, row int, payloads [][]byte) ([][]byte, api.Errno) {
	return each(payloads, func(shard int, payload []byte) ([]byte, api.Errno) {
		return frame.Page(s.Page, api.Head{Segment: id, Row: row, Shard: shard}, payload)
	})
}

// cut parts bytes into pieces of size each, as many as are whole; none can grow into the next one.
func cut(b []byte, size int) [][]byte {
	pieces := make([][]byte, len(b)/size)
	for i := range pieces {
		at, end := i*size, (i+1)*size
		pieces[i] = b[at:end:end]
	}
	return pieces
}

// each tells what do makes of the list's items, by their numbers; or its first error alone.
func each[In, Out any](list []In, do func(n int, item In) (Out, api.Errno)) ([]Out, api.Errno) {
	made := make([]Out, len(list))
	for n, item := range list {
		out, e := do(n, item)
		if e != api.OK {
			return nil, e
		}
		made[n] = out
	}
	return made, api.OK
}
