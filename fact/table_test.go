package fact_test

import (
	"iter"
	"math"
	"slices"
	"testing"

	"flint/api"
)

// some tells facts of a few keys; those of m lie in many blocks.
func some() []api.Fact {
	l := []api.Fact{f("", 3, "none"), f("c", 8, "new"), f("c", 2, "old"), f("f", 5, "")}
	for seq := uint64(90); seq > 50; seq-- {
		l = append(l, f("m", seq, "many"))
	}
	return append(l, f("mm", 7, "x"), f("z", math.MaxUint64, "last"), f("z", 0, "first"))
}

func TestP1104Get(t *testing.T) {
	l := some()
	table := tableOf(t, l...)
	for _, key := range []string{"", "c", "f", "m", "mm", "z"} {
		i := slices.IndexFunc(l, func(x api.Fact) bool { return x.Key == key })
		if x, ok := table.Get(key); !ok || !same(x, l[i]) {
			t.Errorf("%q: %v, %v; want %v", key, x, ok, l[i])
		}
	}
	for _, key := range []string{"\x00", "b", "c\x00", "cc", "e", "l", "m\x00", "n", "y", "z\x00", "zz", "\xff", "C"} {
		if x, ok := table.Get(key); ok || !same(x, api.Fact{}) {
			t.Errorf("%q: %v, %v; want none", key, x, ok)
		}
	}
}

func TestP1104GetOfGreatestAndLeast(t *testing.T) {
	for _, seq := range []uint64{0, 1, 1 << 63, math.MaxUint64} {
		table := tableOf(t, f("b", seq, "v"))
		if x, ok := table.Get("b"); !ok || !same(x, f("b", seq, "v")) {
			t.Errorf("%d: %v, %v", seq, x, ok)
		}
		for _, key := range []string{"", "a", "b\x00", "c"} {
			if x, ok := table.Get(key); ok || !same(x, api.Fact{}) {
				t.Errorf("%q: %v, %v; want none", key, x, ok)
			}
		}
	}
}

func TestP1104AllAndLen(t *testing.T) {
	table := tableOf(t, some()...)
	if l := slices.Collect(table.All()); !equal(l, some()) {
		t.Errorf("%v", l)
	}
	if n := table.Len(); n != len(some()) {
		t.Errorf("Len: %d; want %d", n, len(some()))
	}
}

// within tells the facts of l of keys from lo on, below hi.
func within(l []api.Fact, lo, hi string) []api.Fact {
	var out []api.Fact
	for _, x := range l {
		if lo <= x.Key && x.Key < hi {
			out = append(out, x)
		}
	}
	return out
}

func TestP1104Range(t *testing.T) {
	table := tableOf(t, some()...)
	keys := []string{"", "\x00", "a", "c", "c\x00", "d", "f", "g", "m", "m\x00", "mm", "n", "z", "z\x00", "\xff"}
	for _, lo := range keys {
		for _, hi := range keys {
			if l := slices.Collect(table.Range(lo, hi)); !equal(l, within(some(), lo, hi)) {
				t.Errorf("from %q on, below %q: %v", lo, hi, l)
			}
		}
	}
}

func TestP1104Bounds(t *testing.T) {
	for _, c := range []struct {
		name        string
		l           []api.Fact
		first, last string
		lo, hi      uint64
	}{
		{"one", []api.Fact{f("a", 7, "")}, "a", "a", 7, 7},
		{"one of Seq 0", []api.Fact{f("", 0, "")}, "", "", 0, 0},
		{"one of the greatest Seq", []api.Fact{f("x", math.MaxUint64, "")}, "x", "x", math.MaxUint64, math.MaxUint64},
		{"numbers rise", []api.Fact{f("a", 1, ""), f("b", 2, ""), f("c", 3, "")}, "a", "c", 1, 3},
		{"numbers fall", []api.Fact{f("a", 3, ""), f("b", 2, ""), f("c", 1, "")}, "a", "c", 1, 3},
		{"both in the middle", []api.Fact{f("a", 5, ""), f("b", 9, ""), f("b", 2, ""), f("c", 6, "")}, "a", "c", 2, 9},
		{"of one key", []api.Fact{f("k", 8, ""), f("k", 6, "")}, "k", "k", 6, 8},
		{"many", some(), "", "z", 0, math.MaxUint64},
	} {
		first, last, lo, hi, is := tableOf(t, c.l...).Bounds()
		if first != c.first || last != c.last || lo != c.lo || hi != c.hi || !is {
			t.Errorf("%s: %q, %q, %d, %d, %v", c.name, first, last, lo, hi, is)
		}
	}
}

func TestP1104WithoutFacts(t *testing.T) {
	table := tableOf(t)
	if first, last, lo, hi, is := table.Bounds(); first != "" || last != "" || lo != 0 || hi != 0 || is {
		t.Errorf("Bounds: %q, %q, %d, %d, %v", first, last, lo, hi, is)
	}
	if x, ok := table.Get(""); ok || !same(x, api.Fact{}) {
		t.Errorf("Get: %v, %v", x, ok)
	}
	all, part := slices.Collect(table.All()), slices.Collect(table.Range("", "\xff"))
	if len(all) != 0 || len(part) != 0 || table.Len() != 0 {
		t.Errorf("%v, %v, %d; want none", all, part, table.Len())
	}
}

func TestP1104RandomTables(t *testing.T) {
	r := source(11, 5)
	for step := range 300 {
		l := noise(r, r.IntN(80))
		table := tableOf(t, l...)
		keys := []string{"", "\x00", "\x55", "\xaa", "\xff\xff\xff"}
		for _, x := range noise(r, 10) {
			keys = append(keys, x.Key)
		}
		for _, key := range keys {
			of := within(l, key, key+"\x00")
			x, ok := table.Get(key)
			if ok != (len(of) > 0) || ok && !same(x, of[0]) {
				t.Fatalf("step %d: Get(%q): %v, %v; want the first of %v", step, key, x, ok, of)
			}
			for _, hi := range keys {
				if got := slices.Collect(table.Range(key, hi)); !equal(got, within(l, key, hi)) {
					t.Fatalf("step %d: Range(%q, %q): %v", step, key, hi, got)
				}
			}
		}
	}
}

// taken tells the first n facts of a sequence, and leaves it then.
func taken(seq iter.Seq[api.Fact], n int) []api.Fact {
	var l []api.Fact
	for x := range seq {
		if len(l) == n {
			break
		}
		l = append(l, x)
	}
	return l
}

func TestP7SequencesAreLeftAndRangedOverAgain(t *testing.T) {
	table := tableOf(t, some()...)
	part := within(some(), "c", "z")
	all, between := table.All(), table.Range("c", "z")
	for n := range len(part) {
		if l := taken(all, n); !equal(l, some()[:n]) {
			t.Errorf("All, %d: %v", n, l)
		}
		if l := taken(between, n); !equal(l, part[:n]) {
			t.Errorf("Range, %d: %v", n, l)
		}
	}
	if l := slices.Collect(all); !equal(l, some()) {
		t.Errorf("All: %v", l)
	}
	if l := slices.Collect(between); !equal(l, part) {
		t.Errorf("Range: %v", l)
	}
}

func TestP7SequencesWithinEachOther(t *testing.T) {
	l := []api.Fact{f("a", 1, "x"), f("b", 2, "y"), f("c", 3, "z")}
	all := tableOf(t, l...).All()
	var got, want []api.Fact
	for x := range all {
		for y := range all {
			got = append(got, x, y)
		}
	}
	for _, x := range l {
		for _, y := range l {
			want = append(want, x, y)
		}
	}
	if !equal(got, want) {
		t.Errorf("%v", got)
	}
}
