package elide_test

import (
	"bytes"
	"math"
	"slices"
	"strings"
	"testing"

	"flint/api"
	"flint/elide"
)

// roomy tells facts that are as these are, with spare room behind them and their Values.
func roomy(l []api.Fact) []api.Fact {
	out := make([]api.Fact, 0, len(l)+3)
	for _, x := range l {
		x.Value = append(make([]byte, 0, len(x.Value)+20), x.Value...)
		out = append(out, x)
	}
	return out
}

// copied tells facts that are as these are, their spare room too.
func copied(l []api.Fact) []api.Fact {
	out := slices.Clone(l[:cap(l)])
	for i, x := range out {
		out[i].Value = bytes.Clone(x.Value[:cap(x.Value)])
	}
	return out
}

// scribble changes each byte, the spare room too; done again, it does not change them back.
func scribble(b []byte) {
	b = b[:cap(b)]
	for i := range b {
		b[i] += 0x35
	}
}

// spoil changes all elisions of l, the spare room too.
func spoil(l []api.Elision) {
	l = l[:cap(l)]
	for i := range l {
		l[i] = e("spoilt", "spoilu", 77)
	}
}

// some tells elisions, plain already, with spare room behind them.
func some() []api.Elision {
	return append(make([]api.Elision, 0, 9), e("a", "c", 5), e("c", "f", 3), e("x", "y", 9))
}

func TestP1AnyStretches(t *testing.T) {
	keys := []string{"", "\x00", "a", "a\x00", strings.Repeat("k", 5000), "\x7f", "\x80", "\xff", "\xff\xff", "é", "\xc3"}
	seqs := []uint64{0, 1, math.MaxInt64, math.MaxInt64 + 1, math.MaxUint64}
	s, all := setOf(t), shadow{}
	for _, lo := range keys {
		for _, hi := range keys {
			for _, seq := range seqs {
				x := e(lo, hi, seq)
				err := s.Add(x)
				if (err == api.OK) != (lo < hi) {
					t.Fatalf("Add(%q, %q): %v", lo, hi, err)
				}
				if err == api.OK {
					all = append(all, x)
				}
			}
			if l := s.Over(lo, hi); !slices.Equal(l, all.over(lo, hi)) {
				t.Fatalf("Over(%q, %q): %v", lo, hi, l)
			}
		}
	}
	lists(t, "all", s, all.list()...)
}

func TestP1ASetThatNewDidNotMake(t *testing.T) {
	s := &elide.Set{}
	_, ok := s.Newest()
	l, err := s.Filter(nil)
	if ok || len(l) != 0 || err != api.OK || s.Has("", 0) || s.Len() != 0 || len(s.List()) != 0 || len(s.Over("", "z")) != 0 || s.Forget(9) != 0 {
		t.Error("it has elisions")
	}
	add(t, s, some()...)
	lists(t, "added", s, some()...)
}

func TestP2ElisionsAreNotChangedOrKept(t *testing.T) {
	r := source(12, 6)
	for n := range 6 {
		l := append(make([]api.Elision, 0, n+5), elisions(r, n)...)
		l = append(l, e("m", "n", 1))[:n]
		was := slices.Clone(l[:cap(l)])
		s := setOf(t, l...)
		if !slices.Equal(l[:cap(l)], was) {
			t.Fatalf("New changes the %d that it is handed", n)
		}
		want := shadow(was[:n]).list()
		spoil(l)
		lists(t, "New keeps what it was handed", s, want...)
		now := slices.Clone(l[:cap(l)])
		add(t, s, e("", "z", 8))
		s.Forget(8)
		if !slices.Equal(l[:cap(l)], now) {
			t.Fatal("a set changes what New was handed")
		}
	}
}

func TestP2WhatASetTellsMayBeChanged(t *testing.T) {
	s := setOf(t, some()...)
	for range 2 {
		spoil(s.List())
		spoil(s.Over("", "z"))
		spoil(s.Over("a", "b"))
		spoil(s.Over("m", "n"))
		lists(t, "what was told is the set's own", s, some()...)
	}
	list, over := s.List(), s.Over("b", "x\x00")
	add(t, s, e("b", "d", 7), e("", "zz", 1))
	s.Forget(5)
	if !slices.Equal(list, some()) || !slices.Equal(over, some()) {
		t.Errorf("what was told changes: %v, %v", list, over)
	}
}

func TestP2FactsAreNotChangedOrShared(t *testing.T) {
	s := setOf(t, e("b", "c", 5))
	in := roomy([]api.Fact{f("a", 3, "xyz"), f("a", 2, "old"), f("b", 5, "gone"), f("c", 2, ""), f("d", 3, "w")})
	was := copied(in)
	x, ok := s.Newest(in[:2]...)
	l, err := s.Filter(in)
	if !ok || err != api.OK || len(l) != 3 {
		t.Fatalf("%v; %v, %v", x, l, err)
	}
	scribble(x.Value)
	for i := range l {
		scribble(l[i].Value)
	}
	for i := range l[:cap(l)] {
		l[:cap(l)][i] = f("spoilt", 77, "spoilt")
	}
	if !slices.EqualFunc(copied(in), was, same) {
		t.Error("what is handed in is changed, or answered")
	}
}

// Two facts with one Value are told with two.
func TestP2ListsOfAnAnswerShareNothing(t *testing.T) {
	value := []byte("shared")
	in := []api.Fact{{Key: "a", Seq: 2, Value: value}, {Key: "b", Seq: 2, Value: value}, {Key: "c", Value: value[:3]}}
	l, err := setOf(t, some()[2:]...).Filter(in)
	if err != api.OK || len(l) != 3 {
		t.Fatalf("%v, %v", l, err)
	}
	for i := range l {
		was := copied(slices.Concat(l[:i], l[i+1:]))
		scribble(l[i].Value)
		if !slices.EqualFunc(copied(slices.Concat(l[:i], l[i+1:])), was, same) {
			t.Errorf("the Value of fact %d shares memory with another one", i)
		}
	}
}

func TestP3SameCallsSameAnswers(t *testing.T) {
	r := source(12, 7)
	for range 100 {
		l, more, up := elisions(r, 10), elisions(r, 5), seq(r)
		var want []api.Elision
		for i := range 3 {
			s := setOf(t, l...)
			s.Forget(up)
			add(t, s, more...)
			if i == 0 {
				want = s.List()
			}
			lists(t, "the same calls", s, want...)
		}
	}
}

func TestP3AskingChangesNothing(t *testing.T) {
	s := setOf(t, some()...)
	s.Has("b", 5)
	s.Newest(f("b", 9, "x"))
	s.Filter([]api.Fact{f("b", 9, "x")})
	s.Over("b", "d")
	s.Forget(2)
	lists(t, "behind asking", s, some()...)
}

func TestP4NothingBesideAFalseOrAnError(t *testing.T) {
	s := setOf(t, e("a", "b", 5))
	if x, ok := s.Newest(f("a", 5, "value"), f("a", 4, "value")); ok || x.Key != "" || x.Seq != 0 || len(x.Value) != 0 {
		t.Errorf("Newest: %v, %v", x, ok)
	}
	if l, err := s.Filter([]api.Fact{f("c", 1, ""), f("c", 1, "")}); err != api.ErrOrder || len(l) != 0 {
		t.Errorf("Filter: %v, %v", l, err)
	}
	if s, err := elide.New(e("a", "b", 1), e("b", "a", 1)); err != api.ErrArg || s != nil {
		t.Errorf("New: %v, %v", s, err)
	}
}

func TestP5ErrorsChangeNothing(t *testing.T) {
	s := setOf(t, some()...)
	s.Add(e("c", "c", 9))
	s.Add(e("y", "x", 9))
	s.Filter([]api.Fact{f("x", 1, ""), f("a", 1, "")})
	lists(t, "behind errors", s, some()...)
}

func TestP7EachSetIsAnother(t *testing.T) {
	l := some()
	one, other := setOf(t, l...), setOf(t, l...)
	add(t, one, e("a", "z", 7))
	one.Forget(7)
	lists(t, "the other one", other, l...)
	lists(t, "the one", one, e("x", "y", 9))
}
