package frame_test

import (
	"bytes"
	"math"
	"reflect"
	"testing"

	"flint/api"
	"flint/frame"
)

// A call is one of the faces that takes or answers bytes, with what it is handed.
type call struct {
	name string
	in   [][]byte
	do   func(in [][]byte) []byte
}

func calls() []call {
	page, _ := frame.Page(64, api.Head{Segment: 6, Row: 5, Shard: 4}, []byte("payload"))
	empty, _ := frame.Page(32, api.Head{}, nil)
	sum := func(in [][]byte) []byte {
		s := frame.Sum(in...)
		return []byte{byte(s), byte(s >> 8), byte(s >> 16), byte(s >> 24)}
	}
	number := func(in [][]byte) []byte { return frame.Number(in[0], 300) }
	whole := func(in [][]byte) []byte { return frame.Bytes(in[0], in[1:]...) }
	readNumber := func(in [][]byte) []byte {
		v, n, _ := frame.ReadNumber(in[0])
		return []byte{byte(v), byte(n)}
	}
	readBytes := func(in [][]byte) []byte {
		b, _, _ := frame.ReadBytes(in[0], 9)
		return b
	}
	makePage := func(in [][]byte) []byte {
		p, _ := frame.Page(64, api.Head{Segment: 6}, in[0])
		return p
	}
	readPage := func(in [][]byte) []byte {
		_, b, _ := frame.ReadPage(in[0])
		return b
	}
	record := func(in [][]byte) []byte { return frame.Record(9, in[0]) }
	readRecord := func(in [][]byte) []byte {
		_, b, _, _ := frame.ReadRecord(in[0])
		return b
	}
	return []call{
		{"Sum", [][]byte{[]byte("ab"), []byte("c")}, sum},
		{"Number", [][]byte{[]byte("abc")}, number},
		{"Number behind nothing", [][]byte{{}}, number},
		{"ReadNumber", [][]byte{{0xAC, 2, 7}}, readNumber},
		{"Bytes", [][]byte{[]byte("x"), []byte("ab"), []byte("c")}, whole},
		{"Bytes without parts", [][]byte{[]byte("x")}, whole},
		{"ReadBytes", [][]byte{[]byte("\x03abcd")}, readBytes},
		{"ReadBytes of none", [][]byte{{0}}, readBytes},
		{"Page", [][]byte{[]byte("payload")}, makePage},
		{"ReadPage", [][]byte{page}, readPage},
		{"ReadPage of an empty one", [][]byte{empty}, readPage},
		{"Record", [][]byte{[]byte("payload")}, record},
		{"ReadRecord", [][]byte{frame.Record(9, []byte("payload"))}, readRecord},
		{"ReadRecord of an empty one", [][]byte{frame.Record(9, nil)}, readRecord},
	}
}

// roomy tells lists that are as these are, with spare room behind them.
func roomy(in [][]byte) [][]byte {
	var out [][]byte
	for _, b := range in {
		out = append(out, append(make([]byte, 0, len(b)+40), b...))
	}
	return out
}

// all tells the lists with their spare room.
func all(in [][]byte) [][]byte {
	var out [][]byte
	for _, b := range in {
		out = append(out, bytes.Clone(b[:cap(b)]))
	}
	return out
}

// scribble changes each byte of b, its spare room too.
func scribble(b []byte) {
	b = b[:cap(b)]
	for i := range b {
		b[i] ^= 0xA5
	}
}

func TestP2NothingHandedInIsChanged(t *testing.T) {
	for _, c := range calls() {
		in := roomy(c.in)
		was := all(in)
		answer := c.do(in)
		if !reflect.DeepEqual(all(in), was) {
			t.Errorf("%s changes what it is handed", c.name)
		}
		scribble(answer)
		if !reflect.DeepEqual(all(in), was) {
			t.Errorf("%s answers what it was handed", c.name)
		}
	}
}

func TestP2NothingHandedInIsKept(t *testing.T) {
	for _, c := range calls() {
		in := roomy(c.in)
		answer := c.do(in)
		want := bytes.Clone(answer)
		for _, b := range in {
			scribble(b)
		}
		if !bytes.Equal(answer, want) {
			t.Errorf("%s keeps what it was handed", c.name)
		}
	}
}

func TestP2AnswersShareNothing(t *testing.T) {
	for _, c := range calls() {
		first, second := c.do(c.in), c.do(c.in)
		want := bytes.Clone(second[:cap(second)])
		scribble(first)
		if !bytes.Equal(second[:cap(second)], want) {
			t.Errorf("%s: two answers share memory", c.name)
		}
	}
}

func TestP2NilIsAsEmpty(t *testing.T) {
	if !bytes.Equal(frame.Number(nil, 5), frame.Number([]byte{}, 5)) {
		t.Error("Number")
	}
	if !bytes.Equal(frame.Bytes(nil), frame.Bytes([]byte{}, []byte{})) {
		t.Error("Bytes")
	}
	a, _ := frame.Page(32, api.Head{}, nil)
	b, _ := frame.Page(32, api.Head{}, []byte{})
	if !bytes.Equal(a, b) {
		t.Error("Page")
	}
	if !bytes.Equal(frame.Record(1, nil), frame.Record(1, []byte{})) {
		t.Error("Record")
	}
}

func TestP3SameCallsSameAnswers(t *testing.T) {
	var want [][]byte
	for _, c := range calls() {
		want = append(want, c.do(c.in))
	}
	for i, c := range calls() {
		if got := c.do(roomy(c.in)); !bytes.Equal(got, want[i]) {
			t.Errorf("%s: % X; before % X", c.name, got, want[i])
		}
	}
}

// readAll reads b in all ways; what is an error must tell nothing beside it.
func readAll(t *testing.T, b []byte) {
	t.Helper()
	if v, n, e := frame.ReadNumber(b); e != api.OK && (v != 0 || n != 0) {
		t.Errorf("ReadNumber % X: %d, %d beside %v", b, v, n, e)
	}
	for _, most := range []int{math.MinInt, -1, 0, 1, 100, math.MaxInt} {
		if x, n, e := frame.ReadBytes(b, most); e != api.OK && (len(x) != 0 || n != 0) {
			t.Errorf("ReadBytes % X: % X, %d beside %v", b, x, n, e)
		}
	}
	if h, x, e := frame.ReadPage(b); e != api.OK && (h != (api.Head{}) || len(x) != 0) {
		t.Errorf("ReadPage % X: %v, % X beside %v", b, h, x, e)
	}
	if s, x, n, e := frame.ReadRecord(b); e != api.OK && (s != 0 || len(x) != 0 || n != 0) {
		t.Errorf("ReadRecord % X: %d, % X, %d beside %v", b, s, x, n, e)
	}
}

func TestP1P4AnyBytesAreRead(t *testing.T) {
	for seed := range uint64(3000) {
		b := noise(seed, int(seed%80))
		readAll(t, b)
		for i := range min(len(b), int(seed%12)) {
			b[i] |= 0x80
		}
		readAll(t, b)
	}
	page, _ := frame.Page(64, api.Head{Segment: 6, Row: 5, Shard: 4}, []byte("payload"))
	for _, whole := range [][]byte{page, frame.Record(9, noise(1, 200)), frame.Bytes(nil, noise(1, 200))} {
		for n := range len(whole) {
			readAll(t, whole[:n])
			readAll(t, whole[n:])
		}
	}
}

func TestP1AnyNumbersAreTaken(t *testing.T) {
	edges := []int{math.MinInt, math.MinInt32, -1, 0, 1, 31, 32, 255, 256, 65536, 65537, 1 << 30, 1<<30 + 1, math.MaxInt32, math.MaxInt}
	for _, size := range edges {
		frame.Room(size)
		for _, row := range edges {
			for _, shard := range edges {
				h := api.Head{Segment: math.MaxUint64, Row: row, Shard: shard, Size: size}
				p, e := frame.Page(size, h, []byte("abc"))
				right := size >= 32 && size <= 65536 && row >= 0 && row <= 1<<30 && shard >= 0 && shard <= 255
				if right != (e == api.OK) || !right && len(p) != 0 {
					t.Fatalf("Page(%d, %v): %d bytes, %v", size, h, len(p), e)
				}
			}
		}
	}
}
