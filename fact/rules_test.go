package fact_test

import (
	"bytes"
	"math"
	"slices"
	"strings"
	"testing"

	"flint/api"
	"flint/fact"
)

// roomy tells facts that are as these are, with spare room behind them and their Values.
func roomy(l []api.Fact) []api.Fact {
	out := make([]api.Fact, 0, len(l)+3)
	for _, x := range l {
		x.Value = append(make([]byte, 0, len(x.Value)+20), x.Value...)
		out = append(out, x)
	}
	return out
}

// copied tells facts that are as these are, their spare room too.
func copied(l []api.Fact) []api.Fact {
	out := slices.Clone(l[:cap(l)])
	for i, x := range out {
		out[i].Value = bytes.Clone(x.Value[:cap(x.Value)])
	}
	return out
}

// scribble changes each byte, the spare room too; done again, it does not change them back.
func scribble(b []byte) {
	b = b[:cap(b)]
	for i := range b {
		b[i] += 0x35
	}
}

// spoil changes all of l that can be.
func spoil(l []api.Fact) {
	l = l[:cap(l)]
	for i, x := range l {
		scribble(x.Value)
		l[i] = f("spoilt", 77, "spoilt")
	}
}

func TestP1AnyFacts(t *testing.T) {
	r := source(11, 6)
	for range 500 {
		l := noise(r, 20)
		r.Shuffle(len(l), func(i, j int) {
			if r.IntN(3) == 0 {
				l[i], l[j] = l[j], l[i]
			}
		})
		right := slices.IsSortedFunc(l, order)
		if fact.Right(l) != right {
			t.Fatalf("Right: %v; want %v", !right, right)
		}
		_, e := fact.Merge(l, l[:len(l)/2], nil)
		if (e == api.OK) != right {
			t.Fatalf("Merge: %v; want %v", e, right)
		}
		for _, block := range []int{math.MinInt, -1, 0, 1, 5, 1 << 20, 1<<20 + 1, math.MaxInt} {
			_, e := fact.Build(l, block)
			if fine := right && block >= 1 && block <= 1<<20; fine != (e == api.OK) {
				t.Fatalf("Build, block %d: %v", block, e)
			}
		}
	}
}

func TestP1AnyBytes(t *testing.T) {
	r := source(11, 7)
	for n := range 3000 {
		b := make([]byte, n%90)
		for i := range b {
			b[i] = byte(r.Uint32())
		}
		if table, e := fact.Open(b); table != nil || e == api.OK {
			t.Fatalf("noise of %d bytes is a table", len(b))
		}
	}
}

// Bytes of tables, changed anywhere, with Sums that are made to fit: what is opened is what its bytes say, and is written just so.
func TestP1ChangedTables(t *testing.T) {
	r := source(11, 8)
	change := func(b []byte) []byte {
		b = slices.Clone(b)
		for range r.IntN(3) {
			switch i := r.IntN(len(b) + 1); {
			case i == len(b) || r.IntN(4) == 0:
				b = slices.Insert(b, i, byte(r.IntN(4)))
			case r.IntN(4) == 0:
				b = slices.Delete(b, i, i+1)
			default:
				b[i] ^= 1 << r.IntN(8)
			}
		}
		return b
	}
	found := 0
	for range 20000 {
		was := rawTable(partedBy(append(noise(r, 4), f("\xff\xff\xff\xff", 1, "")), 1+r.IntN(9))...)
		for i := range was.blocks {
			was.blocks[i] = change(was.blocks[i])
		}
		was.index = change(was.index)
		was.facts += r.IntN(5) / 4
		b := was.bytes()
		table, e := fact.Open(b)
		if e != api.OK {
			continue
		}
		found++
		l := slices.Collect(table.All())
		if !slices.Equal(rawFacts(l...), slices.Concat(was.blocks...)) || !fact.Right(l) || len(l) != was.facts {
			t.Fatalf("% X: opened as %v", b, l)
		}
	}
	if found < 100 {
		t.Errorf("%d tables could be opened: too few to tell", found)
	}
}

func TestP1ATableThatWasNotOpened(t *testing.T) {
	table := &fact.Table{}
	_, ok := table.Get("")
	_, _, _, _, is := table.Bounds()
	if ok || is || table.Len() != 0 || len(slices.Collect(table.All())) != 0 || len(slices.Collect(table.Range("", "z"))) != 0 {
		t.Error("it has facts")
	}
}

func TestP2FactsAreNotChangedOrKept(t *testing.T) {
	for _, l := range [][]api.Fact{some(), rising(), {f("a", 1, "x")}} {
		in := roomy(l)
		was := copied(in)
		b := built(t, in, 30)
		all, e := fact.Merge(in, in[:1], nil)
		one, _ := fact.Merge(in)
		fact.Right(in)
		if !equal(copied(in), was) {
			t.Fatal("what is handed in is changed")
		}
		spoil(in)
		if got := slices.Collect(opened(t, b).All()); !equal(got, l) {
			t.Error("Build keeps what it was handed")
		}
		if e != api.OK || !equal(all, l) || !equal(one, l) {
			t.Error("Merge keeps what it was handed")
		}
	}
}

func TestP2MergeAnswersNewMemory(t *testing.T) {
	for _, n := range []int{1, 2, 3, 4, 7} {
		var lists, want [][]api.Fact
		for i := range n {
			l := roomy(within(some(), []string{"", "c", "m"}[i%3], "\xff"))
			lists, want = append(lists, l), append(want, copied(l))
		}
		heads := slices.Clone(lists)
		all, e := fact.Merge(lists...)
		if e != api.OK || len(all) != len(some()) {
			t.Fatalf("%d facts, %v", len(all), e)
		}
		spoil(all)
		for i, l := range lists {
			if len(l) != len(heads[i]) || !equal(copied(l), want[i]) {
				t.Fatalf("Merge of %d lists answers memory of list %d", n, i)
			}
		}
	}
}

// apart asks that no Value of l shares memory with another one.
func apart(t *testing.T, what string, l []api.Fact) {
	t.Helper()
	for i, x := range l {
		rest := slices.Concat(l[:i], l[i+1:])
		want := copied(rest)
		scribble(x.Value)
		if !equal(copied(rest), want) {
			t.Fatalf("%s: the Value of fact %d shares memory with another one", what, i)
		}
	}
}

func TestP2ListsOfAnAnswerShareNothing(t *testing.T) {
	value := []byte("shared")
	in := []api.Fact{{Key: "a", Seq: 2, Value: value}, {Key: "a", Seq: 1, Value: value}, {Key: "b", Value: value[:3]}}
	all, _ := fact.Merge(in[:2], in)
	apart(t, "Merge", all)
	if string(value) != "shared" {
		t.Error("Merge answers a Value that it was handed")
	}
	table := tableOf(t, some()...)
	apart(t, "All", slices.Collect(table.All()))
	apart(t, "Range", slices.Collect(table.Range("c", "z")))
}

func TestP2OpenDoesNotChangeOrKeepBytes(t *testing.T) {
	b := built(t, some(), 30)
	b = append(make([]byte, 0, len(b)+50), b...)
	was := bytes.Clone(b[:cap(b)])
	table := opened(t, b)
	if !bytes.Equal(b[:cap(b)], was) {
		t.Fatal("Open changes what it is handed")
	}
	scribble(b)
	if l := slices.Collect(table.All()); !equal(l, some()) {
		t.Errorf("Open keeps what it was handed: %v", l)
	}
}

func TestP2WhatATableTellsMayBeChanged(t *testing.T) {
	table := tableOf(t, some()...)
	for range 2 {
		for _, key := range []string{"", "c", "m", "z"} {
			x, _ := table.Get(key)
			scribble(x.Value)
		}
		for x := range table.All() {
			scribble(x.Value)
		}
		for x := range table.Range("c", "zz") {
			scribble(x.Value)
		}
	}
	if l := slices.Collect(table.All()); !equal(l, some()) {
		t.Errorf("what was told is the table's own: %v", l)
	}
	if x, ok := table.Get("c"); !ok || !same(x, f("c", 8, "new")) {
		t.Errorf("%v, %v", x, ok)
	}
}

func TestP2NilIsAsEmpty(t *testing.T) {
	none, empty := []api.Fact{{Key: "a"}}, []api.Fact{{Key: "a", Value: []byte{}}}
	if !bytes.Equal(built(t, none, 1), built(t, empty, 1)) {
		t.Error("Build")
	}
	if fact.Compare(none[0], empty[0]) != 0 {
		t.Error("Compare")
	}
	a, e := fact.Merge(none)
	b, g := fact.Merge(empty, []api.Fact{})
	if !equal(a, b) || e != g {
		t.Error("Merge")
	}
}

func TestP3SameCallsSameAnswers(t *testing.T) {
	r := source(11, 9)
	for range 100 {
		l, m := noise(r, 30), noise(r, 30)
		b := built(t, l, 40)
		all, _ := fact.Merge(l, m)
		for range 3 {
			more, _ := fact.Merge(roomy(l), roomy(m))
			if !bytes.Equal(built(t, roomy(l), 40), b) || !equal(more, all) {
				t.Fatal("the same calls answer otherwise")
			}
		}
	}
}

func TestP7EachTableIsAnother(t *testing.T) {
	b := built(t, some(), 30)
	one, other := opened(t, b), opened(t, b)
	if one == other {
		t.Fatal("one table twice")
	}
	for x := range one.All() {
		scribble(x.Value)
	}
	if l := slices.Collect(other.All()); !equal(l, some()) {
		t.Errorf("%v", l)
	}
}

// Keys are any bytes, not texts alone.
func TestP1105KeysOfAnyBytes(t *testing.T) {
	var l []api.Fact
	for i := range 256 {
		l = append(l, f(string([]byte{byte(i)}), uint64(i), strings.Repeat(string([]byte{byte(i)}), i)))
	}
	table := tableOf(t, l...)
	for _, x := range l {
		if y, ok := table.Get(x.Key); !ok || !same(x, y) {
			t.Errorf("%q: %v, %v", x.Key, y, ok)
		}
	}
}
