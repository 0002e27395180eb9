package fact

import (
	"slices"

	"flint/api"
	"flint/frame"
)

// What a table has at most.
const (
	mostBlock = 1 << 20 // that facts are asked to fill
	mostKey   = 1024    // bytes
	mostValue = 1 << 20 // bytes
	mostFacts = 1 << 20
)

const sumBytes = 4 // of a Sum, and of each number of the foot

// Build writes a table, whose blocks are closed when they have at least block bytes.
func Build(l []api.Fact, block int) ([]byte, api.Errno) {
	if block < 1 || block > mostBlock {
		return nil, api.ErrArg
	}
	if !Right(l) {
		return nil, api.ErrOrder
	}
	if len(l) > mostFacts || slices.ContainsFunc(l, tooLong) {
		return nil, api.ErrLong
	}
	var table, index []byte
	for rest := l; len(rest) > 0; {
		b, n := front(rest, block)
		table = append(table, summed(b)...)
		index = append(index, entry(rest[0].Key, sumBytes+len(b))...)
		rest = rest[n:]
	}
	index = summed(index)
	table = append(table, index...)
	return append(table, foot(len(index), len(l))...), api.OK
}

// tooLong tells whether a fact may be in no table.
func tooLong(f api.Fact) bool {
	return len(f.Key) > mostKey || len(f.Value) > mostValue
}

// front tells a block, without its Sum, of the first facts of l, and how many these are.
func front(l []api.Fact, block int) ([]byte, int) {
	var b []byte
	for i, f := range l {
		b = append(b, written(f)...)
		if len(b) >= block {
			return b, i + 1
		}
	}
	return b, len(l)
}

// written tells a fact in bytes.
func written(f api.Fact) []byte {
	b := frame.Bytes(nil, []byte(f.Key))
	return frame.Bytes(frame.Number(b, f.Seq), f.Value)
}

// entry tells what the index says of a block of size bytes.
func entry(first string, size int) []byte {
	return frame.Number(frame.Bytes(nil, []byte(first)), uint64(size))
}

// foot tells the foot of a table whose index has so many bytes.
func foot(index, facts int) []byte {
	b := append(four(uint32(index)), four(uint32(facts))...)
	return append(b, four(frame.Sum(b))...)
}

// summed tells b with its Sum ahead.
func summed(b []byte) []byte {
	return append(four(frame.Sum(b)), b...)
}

// four tells v in four bytes, the lowest first.
func four(v uint32) []byte {
	return []byte{byte(v), byte(v >> 8), byte(v >> 16), byte(v >> 24)}
}
