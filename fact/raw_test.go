package fact_test

import (
	"bytes"
	"encoding/binary"
	"hash/crc32"
	"math/rand/v2"
	"slices"
	"strings"
	"testing"

	"flint/api"
	"flint/fact"
)

// What follows tells tables a second time, byte by byte, also such that Build never makes.

// raw is a table's parts; what is nil in it is told as it must be.
type raw struct {
	blocks [][]byte // without their Sums
	index  []byte   // without its Sum
	facts  int
}

var castagnoli = crc32.MakeTable(crc32.Castagnoli)

func sumOf(b []byte) []byte {
	return binary.LittleEndian.AppendUint32(nil, crc32.Checksum(b, castagnoli))
}

func withSum(b []byte) []byte {
	return append(sumOf(b), b...)
}

// footOf tells a foot of these numbers whose Sum fits.
func footOf(index, facts uint32) []byte {
	b := binary.LittleEndian.AppendUint32(nil, index)
	b = binary.LittleEndian.AppendUint32(b, facts)
	return append(b, sumOf(b)...)
}

// text tells how many bytes x has, and x.
func text(x string) []byte {
	return append(binary.AppendUvarint(nil, uint64(len(x))), x...)
}

// rawFacts tells facts behind one another.
func rawFacts(l ...api.Fact) []byte {
	var b []byte
	for _, f := range l {
		b = append(b, text(f.Key)...)
		b = binary.AppendUvarint(b, f.Seq)
		b = append(b, text(string(f.Value))...)
	}
	return b
}

// rawEntry tells what an index says of a block of size bytes, its Sum too.
func rawEntry(first string, size uint64) []byte {
	return binary.AppendUvarint(text(first), size)
}

// bytes tells the table, all its Sums fitting.
func (r raw) bytes() []byte {
	var b []byte
	for _, x := range r.blocks {
		b = append(b, withSum(x)...)
	}
	b = append(b, withSum(r.index)...)
	return append(b, footOf(uint32(4+len(r.index)), uint32(r.facts))...)
}

// rawTable tells a table of these blocks, each of some facts.
func rawTable(blocks ...[]api.Fact) raw {
	r := raw{}
	for _, l := range blocks {
		b := rawFacts(l...)
		r.blocks = append(r.blocks, b)
		r.index = append(r.index, rawEntry(l[0].Key, uint64(4+len(b)))...)
		r.facts += len(l)
	}
	return r
}

// partedBy tells l by blocks of at least block bytes.
func partedBy(l []api.Fact, block int) [][]api.Fact {
	var all [][]api.Fact
	size := block
	for _, f := range l {
		if size >= block {
			all, size = append(all, nil), 0
		}
		all[len(all)-1] = append(all[len(all)-1], f)
		size += len(rawFacts(f))
	}
	return all
}

// f is a fact.
func f(key string, seq uint64, value string) api.Fact {
	return api.Fact{Key: key, Seq: seq, Value: []byte(value)}
}

func same(a, b api.Fact) bool {
	return a.Key == b.Key && a.Seq == b.Seq && bytes.Equal(a.Value, b.Value)
}

func equal(a, b []api.Fact) bool {
	return slices.EqualFunc(a, b, same)
}

// before tells the order of facts a second time.
func before(a, b api.Fact) bool {
	return a.Key < b.Key || a.Key == b.Key && a.Seq > b.Seq
}

func order(a, b api.Fact) int {
	switch {
	case before(a, b):
		return -1
	case before(b, a):
		return 1
	}
	return 0
}

// noise tells n facts at most, in order, with some keys that have many.
func noise(r *rand.Rand, n int) []api.Fact {
	var l []api.Fact
	for range n {
		key := strings.Repeat(string([]byte{byte(r.IntN(4) * 85)}), r.IntN(3)) + string([]byte{byte(r.IntN(256))})[:r.IntN(2)]
		seq := uint64(r.IntN(9))
		if r.IntN(5) == 0 {
			seq = r.Uint64() >> r.IntN(64)
		}
		l = append(l, f(key, seq, strings.Repeat("v", r.IntN(20))))
	}
	slices.SortFunc(l, order)
	return slices.CompactFunc(l, func(a, b api.Fact) bool { return order(a, b) == 0 })
}

func source(a, b uint64) *rand.Rand {
	return rand.New(rand.NewPCG(a, b))
}

func built(t *testing.T, l []api.Fact, block int) []byte {
	t.Helper()
	b, e := fact.Build(l, block)
	if e != api.OK {
		t.Fatalf("Build: %v", e)
	}
	return b
}

func opened(t *testing.T, b []byte) *fact.Table {
	t.Helper()
	table, e := fact.Open(b)
	if e != api.OK || table == nil {
		t.Fatalf("Open: %v", e)
	}
	return table
}

// tableOf tells a table of these facts, in blocks of some.
func tableOf(t *testing.T, l ...api.Fact) *fact.Table {
	t.Helper()
	return opened(t, built(t, l, 20))
}

// refused asks that b is no table, by want.
func refused(t *testing.T, what string, b []byte, want api.Errno) {
	t.Helper()
	if table, e := fact.Open(b); table != nil || e != want {
		t.Errorf("%s: %v; want %v", what, e, want)
	}
}
