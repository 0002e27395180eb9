package read

import (
	"flint/api"
	"flint/frame"
	"flint/seg"
)

// A keeper is a source that can tell more: payloads that need not be asked for. (kept is not exported, so no source from elsewhere is taken for one.)
type keeper interface {
	kept(shard, row int) (payload []byte, has bool)
}

// known is a source of which some payloads of a row are known: those of the shards from first on.
type known struct {
	Source
	row, first int
	payloads   [][]byte
}

func (k known) kept(shard, row int) ([]byte, bool) {
	n := shard - k.first
	if row != k.row || n < 0 || n >= len(k.payloads) {
		return nil, false
	}
	return k.payloads[n], true
}

// payloads tells those of the shards from first on, below end, in order; a bad page has none.
func payloads(src Source, s seg.Shape, id uint64, row, first, end int) [][]byte {
	var all [][]byte
	for shard := first; shard < end; shard++ {
		all = append(all, payload(src, s, id, shard, row))
	}
	return all
}

// payload tells that of a page, for which it asks the source, but if that knows it.
func payload(src Source, s seg.Shape, id uint64, shard, row int) []byte {
	if k, ok := src.(keeper); ok {
		if b, has := k.kept(shard, row); has {
			return b
		}
	}
	page, there := src.Page(shard, row)
	if !there {
		return nil
	}
	b, _ := Good(s, id, shard, row, page)
	return b
}

// isBad tells whether a payload is none: that of a page that is Good has bytes.
func isBad(payload []byte) bool {
	return len(payload) == 0
}

// fits tells whether a page of that row may have that payload.
func fits(s seg.Shape, row int, payload []byte) bool {
	if row != 0 {
		return len(payload) == frame.Room(s.Page)
	}
	shape, ok := shapeIn(payload)
	return ok && shape == s
}

// shapeIn tells the shape whose heads have that payload.
func shapeIn(payload []byte) (seg.Shape, bool) {
	var n [3]int
	for i := range n {
		v, size, e := frame.ReadNumber(payload)
		if e != api.OK || v > api.MaxPage { // no number of a right shape is above that, and as an int it might wrap
			return seg.Shape{}, false
		}
		n[i], payload = int(v), payload[size:]
	}
	s := seg.Shape{K: n[0], Pages: n[1], Page: n[2]}
	if len(payload) > 0 || seg.Check(s) != api.OK {
		return seg.Shape{}, false
	}
	return s, true
}
