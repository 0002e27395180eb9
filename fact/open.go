package fact

import (
	"iter"

	"flint/api"
	"flint/frame"
)

const (
	footBytes  = 3 * sumBytes
	leastBlock = sumBytes + 1
)

// part is a block, and the first Key that the index says of it.
type part struct {
	first string
	block []byte
}

// Open reads a table.
func Open(b []byte) (*Table, api.Errno) {
	body, index, count, e := ends(b)
	if e != api.OK {
		return nil, e
	}
	parts, ok := parted(body, index)
	if !ok {
		return nil, api.ErrForm
	}
	var all []api.Fact
	for _, p := range parts {
		l, e := p.facts()
		if e != api.OK {
			return nil, e
		}
		all = append(all, l...)
	}
	if uint64(len(all)) != uint64(count) || !Right(all) {
		return nil, api.ErrForm
	}
	return &Table{facts: all}, api.OK
}

// ends tells what is ahead of the index, the index, and how many facts the foot says.
func ends(b []byte) (body, index []byte, count uint32, e api.Errno) {
	if len(b) < footBytes {
		return nil, nil, 0, api.ErrShort
	}
	rest, last := b[:len(b)-footBytes], b[len(b)-footBytes:]
	if number(last[2*sumBytes:]) != frame.Sum(last[:2*sumBytes]) {
		return nil, nil, 0, api.ErrSum
	}
	size := uint64(number(last))
	if size > uint64(len(rest)) {
		return nil, nil, 0, api.ErrShort
	}
	at := len(rest) - int(size)
	index, ok := unsummed(rest[at:])
	if !ok {
		return nil, nil, 0, api.ErrSum
	}
	return rest[:at], index, number(last[sumBytes:]), api.OK
}

// parted cuts body into its blocks, as the index says them.
func parted(body, index []byte) ([]part, bool) {
	var l []part
	for len(index) > 0 {
		first, n, e := frame.ReadBytes(index, mostKey)
		if e != api.OK {
			return nil, false
		}
		size, m, e := frame.ReadNumber(index[n:])
		if e != api.OK || size < leastBlock || size > uint64(len(body)) {
			return nil, false
		}
		l = append(l, part{string(first), body[:size:size]})
		index, body = index[n+m:], body[size:]
	}
	return l, len(body) == 0
}

// facts tells the facts of a block.
func (p part) facts() ([]api.Fact, api.Errno) {
	b, ok := unsummed(p.block)
	if !ok {
		return nil, api.ErrSum
	}
	var l []api.Fact
	for f, ok := range each(b) {
		if !ok {
			return nil, api.ErrForm
		}
		l = append(l, f)
	}
	if len(l) == 0 || l[0].Key != p.first {
		return nil, api.ErrForm
	}
	return l, api.OK
}

// each goes over the facts that b has; where it goes on with none, it tells false, and ends.
func each(b []byte) iter.Seq2[api.Fact, bool] {
	return func(yield func(api.Fact, bool) bool) {
		for rest := b; len(rest) > 0; {
			f, n, e := read(rest)
			if !yield(f, e == api.OK) || e != api.OK {
				return
			}
			rest = rest[n:]
		}
	}
}

// read tells the fact at the front of b, in new memory, and how many bytes it has.
func read(b []byte) (api.Fact, int, api.Errno) {
	key, n, e := frame.ReadBytes(b, mostKey)
	if e != api.OK {
		return api.Fact{}, 0, e
	}
	seq, m, e := frame.ReadNumber(b[n:])
	if e != api.OK {
		return api.Fact{}, 0, e
	}
	value, o, e := frame.ReadBytes(b[n+m:], mostValue)
	if e != api.OK {
		return api.Fact{}, 0, e
	}
	return api.Fact{Key: string(key), Seq: seq, Value: value}, n + m + o, api.OK
}

// unsummed tells what is behind b's Sum, if that fits.
func unsummed(b []byte) ([]byte, bool) {
	if len(b) < sumBytes || number(b) != frame.Sum(b[sumBytes:]) {
		return nil, false
	}
	return b[sumBytes:], true
}

// number tells the number in the first four bytes of b, the lowest first.
func number(b []byte) uint32 {
	return uint32(b[0]) | uint32(b[1])<<8 | uint32(b[2])<<16 | uint32(b[3])<<24
}
