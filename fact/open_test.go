package fact_test

import (
	"bytes"
	"encoding/binary"
	"slices"
	"strings"
	"testing"

	"flint/api"
	"flint/fact"
)

// three tells a table of three blocks.
func three() raw {
	return rawTable(
		[]api.Fact{f("a", 5, "five"), f("a", 3, "three")},
		[]api.Fact{f("a", 1, "one"), f("b", 9, "")},
		[]api.Fact{f("c", 4, "four")},
	)
}

func TestP1103Open(t *testing.T) {
	for _, r := range []raw{
		{},
		rawTable([]api.Fact{f("", 0, "")}),
		three(),
		// blocks of any sizes
		rawTable([]api.Fact{f("a", 1, "")}, []api.Fact{f("b", 1, ""), f("c", 1, ""), f("d", 1, "")}, []api.Fact{f("e", 1, strings.Repeat("x", 300))}, []api.Fact{f("f", 0, "")}),
		// a block's first key may be as the last one's of the block ahead
		rawTable([]api.Fact{f("a", 9, "")}, []api.Fact{f("a", 8, "")}, []api.Fact{f("a", 7, "")}),
	} {
		if n := opened(t, r.bytes()).Len(); n != r.facts {
			t.Errorf("%d facts; want %d", n, r.facts)
		}
	}
}

func TestP1103TheFoot(t *testing.T) {
	for n := range 12 {
		refused(t, "too few bytes", make([]byte, n), api.ErrShort)
	}
	refused(t, "12 bytes 0", make([]byte, 12), api.ErrSum)
	refused(t, "a foot alone, no index", footOf(0, 0), api.ErrSum)
	for n := range uint32(4) {
		b := append(make([]byte, n), footOf(n, 0)...)
		refused(t, "an index too short for its Sum", b, api.ErrSum)
	}
	for _, n := range []uint32{5, 16, 1 << 31, 1<<32 - 12, 1<<32 - 1} {
		b := append(make([]byte, 4), footOf(n, 0)...)
		refused(t, "an index longer than there are bytes", b, api.ErrShort)
	}
	b := append(make([]byte, 4), footOf(9, 0)...)
	b[len(b)-1] ^= 1
	refused(t, "a foot's Sum ahead of a long index", b, api.ErrSum)
	whole := three().bytes()
	refused(t, "the foot's first byte lost", slices.Delete(slices.Clone(whole), len(whole)-12, len(whole)-11), api.ErrSum)
	all := len(whole) - 12
	b = append(slices.Clone(whole[:all]), footOf(uint32(all+1), 5)...)
	refused(t, "an index one longer than there are bytes", b, api.ErrShort)
	b = append(slices.Clone(whole[:all]), footOf(uint32(all), 5)...)
	refused(t, "an index of all bytes", b, api.ErrSum)
}

func TestP1103TheIndexsSum(t *testing.T) {
	r := three()
	b := r.bytes()
	for i := range 4 + len(r.index) {
		x := slices.Clone(b)
		x[len(b)-13-i] ^= 0x10
		refused(t, "a byte of the index", x, api.ErrSum)
	}
	// the index is asked ahead of the blocks
	r.index = []byte{9}
	x := r.bytes()
	x[0] ^= 1
	refused(t, "a block's Sum, an index that cannot be read", x, api.ErrForm)
	x[len(x)-14] ^= 1
	refused(t, "a block's Sum, the index's Sum", x, api.ErrSum)
}

func TestP1103TheIndexsForm(t *testing.T) {
	size := func(i int) uint64 { return uint64(4 + len(three().blocks[i])) }
	one, two, last := rawEntry("a", size(0)), rawEntry("a", size(1)), rawEntry("c", size(2))
	long := strings.Repeat("k", 1025)
	for _, c := range []struct {
		name  string
		index []byte
	}{
		{"none", nil},
		{"the last missing", slices.Concat(one, two)},
		{"one too many", slices.Concat(one, two, last, rawEntry("d", 5))},
		{"one of no bytes too many", slices.Concat(one, two, last, rawEntry("d", 0))},
		{"ends within a number", slices.Concat(one, two, last[:2])},
		{"ends within a key", slices.Concat(one, two, last[:1])},
		{"ends within a key's number", slices.Concat(one, two, last, []byte{0x80})},
		{"a byte behind it", slices.Concat(one, two, last, []byte{0})},
		{"the last too short", slices.Concat(one, two, rawEntry("c", size(2)-1))},
		{"the last too long", slices.Concat(one, two, rawEntry("c", size(2)+1))},
		{"the last far too long", slices.Concat(one, two, rawEntry("c", 1<<63))},
		{"the last so long that sums wrap", slices.Concat(one, two, rawEntry("c", 1<<64-1))},
		{"bounds that wrap to the end", slices.Concat(rawEntry("a", 1<<63), rawEntry("a", 1<<63), one, two, last)},
		{"a size in too many bytes", slices.Concat(one, two, text("c"), []byte{byte(size(2)) | 0x80, 0})},
		{"a key's number in too many bytes", slices.Concat(one, two, []byte{0x81, 0, 'c', byte(size(2))})},
		{"a key too long", slices.Concat(rawEntry(long, size(0)), two, last)},
		{"four bytes of a block", slices.Concat(rawEntry("a", 4), rawEntry("a", size(0)-4), two, last)},
		{"no byte of a block", slices.Concat(rawEntry("a", 0), one, two, last)},
	} {
		r := three()
		r.index = c.index
		refused(t, c.name, r.bytes(), api.ErrForm)
	}
}

// A block of four bytes has a Sum, and no fact; one of five has a byte that is no fact alone.
func TestP1103SmallBlocks(t *testing.T) {
	for n := range uint64(5) {
		r := raw{blocks: [][]byte{nil}, index: rawEntry("", n)}
		refused(t, "a block of no facts", r.bytes(), api.ErrForm)
	}
	r := raw{blocks: [][]byte{{0}}, index: rawEntry("", 5)}
	refused(t, "a block of a byte", r.bytes(), api.ErrForm)
	b := r.bytes()
	b[0] ^= 1
	refused(t, "its Sum", b, api.ErrSum)
}

func TestP1103ABlocksSum(t *testing.T) {
	r := three()
	n := 0
	for _, x := range r.blocks {
		n += 4 + len(x)
	}
	for i := range n {
		b := r.bytes()
		b[i] ^= 0x80
		refused(t, "a byte of a block", b, api.ErrSum)
	}
}

// ten tells the ten bytes of a number, which is above 64 bits, if the last one is above 1.
func ten(last byte) []byte {
	return append(bytes.Repeat([]byte{0xFF}, 9), last)
}

func TestP1103ABlocksForm(t *testing.T) {
	x := rawFacts(f("c", 4, "four"))
	for _, c := range []struct {
		name  string
		block []byte
	}{
		{"ends within a key's number", []byte{0x80}},
		{"ends within a key", []byte{2, 'c'}},
		{"ends behind a key", x[:2]},
		{"ends within a number", []byte{1, 'c', 0x84}},
		{"ends behind a number", x[:3]},
		{"ends within a value", x[:len(x)-1]},
		{"a byte behind it", slices.Concat(x, []byte{0})},
		{"a fact behind it that ends early", slices.Concat(x, x[:len(x)-1])},
		{"a key's number in too many bytes", slices.Concat([]byte{0x81, 0}, x[1:])},
		{"a number in too many bytes", []byte{1, 'c', 0x84, 0, 0}},
		{"a value's number in too many bytes", []byte{1, 'c', 4, 0x80, 0}},
		{"a number above 64 bits", slices.Concat([]byte{1, 'c'}, ten(2), []byte{0})},
		{"a value's number above 64 bits", slices.Concat([]byte{1, 'c', 4}, ten(2))},
		{"the greatest number for a key", ten(1)},
		{"the greatest number for a value", slices.Concat([]byte{1, 'c', 4}, ten(1))},
		{"a value one too long", rawFacts(f("c", 4, strings.Repeat("v", 1<<20+1)))},
		{"a key one too long", rawFacts(f("c", 4, ""), f(strings.Repeat("d", 1025), 4, ""))},
		{"another first key", rawFacts(f("d", 4, "four"))},
		{"a longer first key", rawFacts(f("c\x00", 4, ""))},
		{"no first key", rawFacts(f("", 4, ""))},
		{"the first key behind another one", rawFacts(f("b", 1, ""), f("c", 4, "four"))},
	} {
		r := three()
		r.index = r.index[:len(r.index)-len(rawEntry("c", 12))]
		r.blocks[2] = c.block
		r.index = append(r.index, rawEntry("c", uint64(4+len(c.block)))...)
		for r.facts = 4; r.facts <= 6; r.facts++ { // so that it is not the number of facts that is refused
			refused(t, c.name, r.bytes(), api.ErrForm)
		}
	}
}

func TestP1103AFirstKeyTooLong(t *testing.T) {
	long := f(strings.Repeat("k", 1025), 1, "")
	b := rawTable([]api.Fact{long}).bytes()
	refused(t, "a key of 1025 bytes", b, api.ErrForm)
	b[0] ^= 1
	refused(t, "a key of 1025 bytes in the index, the block's Sum", b, api.ErrForm)
	long.Key = long.Key[1:]
	opened(t, rawTable([]api.Fact{long}).bytes())
}

// Blocks are asked one behind the other; what is asked of all facts comes last.
func TestP1103TheOrderOfErrors(t *testing.T) {
	r := three()
	second := 4 + len(r.blocks[0])
	third := second + 4 + len(r.blocks[1])
	r.blocks[1][0] = 0x7F // no fact
	b := r.bytes()
	refused(t, "block 2 is no facts", b, api.ErrForm)
	b[third] ^= 1
	refused(t, "block 2 is no facts, block 3's Sum", b, api.ErrForm)
	b[second] ^= 1
	refused(t, "block 2's Sum", b, api.ErrSum)
	b[second] ^= 1
	b[0] ^= 1
	refused(t, "block 1's Sum, block 2 is no facts", b, api.ErrSum)

	r = rawTable([]api.Fact{f("b", 1, ""), f("a", 1, "")}, []api.Fact{f("c", 1, "")})
	b = r.bytes()
	refused(t, "out of order", b, api.ErrForm)
	b[4+len(r.blocks[0])] ^= 1
	refused(t, "out of order, block 2's Sum", b, api.ErrSum)

	r = three()
	r.facts++
	b = r.bytes()
	refused(t, "too few", b, api.ErrForm)
	b[third] ^= 1
	refused(t, "too few, block 3's Sum", b, api.ErrSum)
}

func TestP1103OutOfOrder(t *testing.T) {
	a, b, c := f("a", 1, ""), f("b", 1, ""), f("c", 1, "")
	for _, l := range [][][]api.Fact{
		{{b, a}},
		{{a, a}},
		{{a, f("a", 1, "x")}},
		{{a, f("a", 2, "")}},
		{{b}, {a}},
		{{a}, {a}},
		{{a}, {f("a", 2, "")}},
		{{a, c}, {b}},
		{{a, c}, {b, c}},
		{{a}, {c}, {b}},
		{{c}, {a, b}},
	} {
		refused(t, "out of order", rawTable(l...).bytes(), api.ErrForm)
	}
}

func TestP1103HowManyFacts(t *testing.T) {
	for _, n := range []int{0, 1, 4, 6, 10, 5 + 1<<8, 1<<32 - 1} {
		r := three()
		r.facts = n
		refused(t, "another number of facts", r.bytes(), api.ErrForm)
	}
	for _, n := range []int{1, 1 << 31, 1<<32 - 1} {
		refused(t, "facts, and no block", raw{facts: n}.bytes(), api.ErrForm)
	}
}

// P1102's bound of facts is Build's alone.
func TestP1103MoreFactsThanBuildWrites(t *testing.T) {
	l := make([]api.Fact, 1<<20+1)
	for i := range l {
		l[i].Key = string(binary.BigEndian.AppendUint32(nil, uint32(i)))
	}
	if n := opened(t, rawTable(l).bytes()).Len(); n != len(l) {
		t.Errorf("%d facts; want %d", n, len(l))
	}
}

func TestP1105OpenTellsWhatWasBuilt(t *testing.T) {
	r := source(11, 3)
	for step := range 500 {
		l := noise(r, r.IntN(60))
		table := opened(t, built(t, l, 1+r.IntN(200)))
		if got := slices.Collect(table.All()); !equal(got, l) || table.Len() != len(l) {
			t.Fatalf("step %d: %d facts: %v; want %v", step, table.Len(), got, l)
		}
	}
	if got := slices.Collect(tableOf(t, rising()...).All()); !equal(got, rising()) {
		t.Errorf("%v", got)
	}
}

func TestP1105OneBitChanged(t *testing.T) {
	r := source(11, 4)
	for n := range 12 {
		b := built(t, noise(r, n), 1+4*n)
		for i := range 8 * len(b) {
			b[i/8] ^= 1 << (i % 8)
			if table, e := fact.Open(b); table != nil || e == api.OK {
				t.Fatalf("%d facts, bit %d: not refused", n, i)
			}
			b[i/8] ^= 1 << (i % 8)
		}
		opened(t, b)
	}
}
