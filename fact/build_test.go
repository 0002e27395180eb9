package fact_test

import (
	"bytes"
	"encoding/binary"
	"math"
	"strings"
	"testing"

	"flint/api"
	"flint/fact"
)

func TestP1102TheEmptyTable(t *testing.T) {
	want := []byte{0, 0, 0, 0, 4, 0, 0, 0, 0, 0, 0, 0}
	want = append(want, sumOf(want[4:])...)
	for _, block := range []int{1, 100, 1 << 20} {
		for _, l := range [][]api.Fact{nil, {}} {
			if b := built(t, l, block); !bytes.Equal(b, want) {
				t.Errorf("% X; want % X", b, want)
			}
		}
	}
}

func TestP1102TableBytes(t *testing.T) {
	first := []byte{1, 'a', 0xAC, 2, 2, 'x', 'y', 1, 'a', 0, 0}
	second := []byte{2, 'b', 0, 1, 1, 'z'}
	index := []byte{1, 'a', 15, 2, 'b', 0, 10}
	want := append(withSum(first), withSum(second)...)
	want = append(want, withSum(index)...)
	want = append(want, footOf(11, 3)...)
	l := []api.Fact{f("a", 300, "xy"), f("a", 0, ""), f("b\x00", 1, "z")}
	for block := 8; block <= 11; block++ {
		if b := built(t, l, block); !bytes.Equal(b, want) {
			t.Errorf("block %d: % X; want % X", block, b, want)
		}
	}
}

// A block of exactly as many bytes as are asked for is closed, one of a byte less is not.
func TestP1102BlocksAreClosed(t *testing.T) {
	l := []api.Fact{f("a", 1, "12345"), f("b", 2, "12345"), f("c", 3, "12345"), f("d", 4, "")}
	for _, c := range []struct {
		block int
		sizes []int
	}{
		{1, []int{1, 1, 1, 1}},
		{8, []int{1, 1, 1, 1}},
		{9, []int{1, 1, 1, 1}},
		{10, []int{2, 2}},
		{18, []int{2, 2}},
		{19, []int{3, 1}},
		{27, []int{3, 1}},
		{28, []int{4}},
		{31, []int{4}},
		{32, []int{4}},
		{1 << 20, []int{4}},
	} {
		var blocks [][]api.Fact
		rest := l
		for _, n := range c.sizes {
			blocks, rest = append(blocks, rest[:n]), rest[n:]
		}
		if b := built(t, l, c.block); !bytes.Equal(b, rawTable(blocks...).bytes()) {
			t.Errorf("block %d: % X; want blocks of %v facts", c.block, b, c.sizes)
		}
	}
}

func TestP1102BuildOfRandomFacts(t *testing.T) {
	r := source(11, 2)
	for step := range 500 {
		l := noise(r, r.IntN(60))
		block := 1 + r.IntN(120)
		if b := built(t, l, block); !bytes.Equal(b, rawTable(partedBy(l, block)...).bytes()) {
			t.Fatalf("step %d: %d facts, block %d: not the table", step, len(l), block)
		}
	}
}

func TestP1102LongKeysAndValues(t *testing.T) {
	key, value := strings.Repeat("k", 1024), strings.Repeat("v", 1<<20)
	for _, l := range [][]api.Fact{
		{f(key, math.MaxUint64, "")},
		{f("k", 1, value)},
		{f("", 1, value), f(key, 1, value), f(key, 0, "")},
	} {
		for _, block := range []int{1, 1 << 10, 1 << 20} {
			b := built(t, l, block)
			if !bytes.Equal(b, rawTable(partedBy(l, block)...).bytes()) {
				t.Errorf("%d facts, block %d: not the table", len(l), block)
			}
			opened(t, b)
		}
	}
}

func TestP1102BuildErrors(t *testing.T) {
	a, b := f("a", 1, "1"), f("b", 2, "2")
	longKey, longValue := f(strings.Repeat("k", 1025), 1, ""), f("v", 1, strings.Repeat("v", 1<<20+1))
	for _, c := range []struct {
		name  string
		l     []api.Fact
		block int
		want  api.Errno
	}{
		{"block 0", []api.Fact{a, b}, 0, api.ErrArg},
		{"block below 0", []api.Fact{a, b}, -1, api.ErrArg},
		{"block far below 0", nil, math.MinInt, api.ErrArg},
		{"block one too great", []api.Fact{a, b}, 1<<20 + 1, api.ErrArg},
		{"block far too great", nil, math.MaxInt, api.ErrArg},
		{"block, and out of order", []api.Fact{b, a}, 0, api.ErrArg},
		{"block, and too long", []api.Fact{longKey}, 0, api.ErrArg},
		{"out of order", []api.Fact{b, a}, 1, api.ErrOrder},
		{"one twice", []api.Fact{a, a}, 1, api.ErrOrder},
		{"out of order, and too long", []api.Fact{longKey, a}, 1, api.ErrOrder},
		{"too long, and then out of order", []api.Fact{a, longKey, b}, 1, api.ErrOrder},
		{"a key one too long", []api.Fact{a, longKey}, 1, api.ErrLong},
		{"a key alone", []api.Fact{longKey}, 1 << 20, api.ErrLong},
		{"a value one too long", []api.Fact{a, longValue}, 1, api.ErrLong},
		{"a value alone", []api.Fact{longValue}, 1 << 20, api.ErrLong},
	} {
		if x, e := fact.Build(c.l, c.block); len(x) != 0 || e != c.want {
			t.Errorf("%s: %d bytes, %v; want %v", c.name, len(x), e, c.want)
		}
	}
}

func TestP1102MostFacts(t *testing.T) {
	l := make([]api.Fact, 1<<20+1)
	for i := range l {
		l[i].Key = string(binary.BigEndian.AppendUint32(nil, uint32(i)))
	}
	if b, e := fact.Build(l, 1000); len(b) != 0 || e != api.ErrLong {
		t.Errorf("one too many: %d bytes, %v; want long", len(b), e)
	}
	if b, e := fact.Build(l, 0); len(b) != 0 || e != api.ErrArg {
		t.Errorf("one too many, and block 0: %d bytes, %v; want arg", len(b), e)
	}
	l = l[:1<<20]
	table := opened(t, built(t, l, 1000))
	if table.Len() != 1<<20 {
		t.Errorf("%d facts; want %d", table.Len(), 1<<20)
	}
	for _, i := range []int{0, 1, 1<<20 - 1} {
		if x, ok := table.Get(l[i].Key); !ok || !same(x, l[i]) {
			t.Errorf("fact %d: %v, %v", i, x, ok)
		}
	}
	l[0], l[1] = l[1], l[0]
	if b, e := fact.Build(l, 1); len(b) != 0 || e != api.ErrOrder {
		t.Errorf("out of order: %d bytes, %v; want order", len(b), e)
	}
}
