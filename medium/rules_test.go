package medium_test

import (
	"math"
	"slices"
	"testing"

	"flint/api"
	"flint/medium"
)

// four tells mediums, with spare room behind them.
func four() []api.Medium {
	return append(make([]api.Medium, 0, 9), f(1, 0, 0, 10), f(3, 1, 2, 6), m(4, 3, 1, 4), m(6, 0, 0, 1))
}

// spoil changes all of a list, its spare room too.
func spoil[T any](l []T, by T) {
	l = l[:cap(l)]
	for i := range l {
		l[i] = by
	}
}

func TestP1AnyData(t *testing.T) {
	ids := []uint64{0, 1, 2, 3, 4, 1 << 31, 1 << 32, math.MaxInt64, math.MaxInt64 + 1, math.MaxUint64 - 1, math.MaxUint64}
	nums := []int{math.MinInt, math.MinInt32, -1, 0, 1, 2, most - 1, most, most + 1, math.MaxInt32, math.MaxInt - 1, math.MaxInt}
	x := loaded(t, 64, math.MaxUint64-40, four()...)
	for _, id := range ids {
		for _, a := range nums {
			for _, b := range nums {
				x.Make(a, id, b)
				medium.Stretch(id, a, b)
				medium.Load(a, id, api.Medium{Id: id, Target: id, At: a, Size: b, Fixed: true})
				medium.Load(64, id, api.Medium{Id: id - 1, Target: id - 2, At: a, Size: b, Fixed: true})
			}
			x.Resize(id, a)
			x.Chain(id, a)
			medium.Key(p(id, a))
		}
		x.Get(id)
		x.Deep(id)
		x.Dead(id)
		x.Fix(id)
	}
	for _, id := range ids {
		x.Alone(id)
		x.Drop(id)
	}
	if x.Next() != 0 { // all of the numbers were given
		t.Errorf("Next: %d", x.Next())
	}
	loaded(t, 64, math.MaxUint64, slices.DeleteFunc(x.List(), func(y api.Medium) bool { return y.Id == math.MaxUint64 })...)
}

// No call goes on without an end where chains would.
func TestP1ChainsThatGoRound(t *testing.T) {
	var l []api.Medium
	for id := range uint64(1000) {
		l = append(l, f(id+1, (id+1)%1000+1, 0, 1))
	}
	if x, e := medium.Load(64, 1001, l...); x != nil || e != api.ErrForm {
		t.Errorf("%v; want form", e)
	}
}

func TestP1ATableThatNewDidNotMake(t *testing.T) {
	x := &medium.Table{}
	for range 2 {
		id, e := x.Make(1, 0, 0)
		if id != 0 || e == api.OK {
			t.Errorf("Make: %d, %v", id, e)
		}
		_, e = x.Make(0, 0, 0)
		told(t, "Make", e, api.ErrArg)
		_, e = x.Make(1, 1, 0)
		told(t, "Make", e, api.ErrNone)
		for _, e := range []api.Errno{x.Fix(1), x.Resize(1, 1), x.Alone(0), x.Drop(1)} {
			told(t, "of a medium", e, api.ErrNone)
		}
		if _, ok := x.Get(0); ok || x.Deep(0) != 0 || len(x.Dead(0, 1)) != 0 {
			t.Error("it has mediums")
		}
		chains(t, x, 0, 0)
		lists(t, "of none", x, 0)
	}
}

func TestP2WhatLoadIsHandedIsNotChangedOrKept(t *testing.T) {
	l := four()
	was := slices.Clone(l[:cap(l)])
	x := loaded(t, 4, 9, l...)
	if !slices.Equal(l[:cap(l)], was) {
		t.Fatal("Load changes what it is handed")
	}
	spoil(l, f(77, 7, 7, 7))
	lists(t, "Load keeps what it was handed", x, 9, four()...)
	x = loaded(t, 4, 9, was[:4]...)
	now := slices.Clone(was)
	told(t, "Resize", x.Resize(6, 8), api.OK)
	told(t, "Alone", x.Alone(4), api.OK)
	made(t, x, 1, 0, 0)
	if !slices.Equal(was, now) {
		t.Fatal("a table changes what Load was handed")
	}
}

func TestP2RootsAreNotChanged(t *testing.T) {
	roots := append(make([]uint64, 0, 9), 6, 3, 3, 99)
	was := slices.Clone(roots[:cap(roots)])
	x := loaded(t, 4, 9, four()...)
	for _, n := range []int{4, 0, 2} {
		x.Dead(roots[:n]...)
		if !slices.Equal(roots[:cap(roots)], was) {
			t.Fatal("Dead changes what it is handed")
		}
	}
}

func TestP2WhatATableTellsMayBeChanged(t *testing.T) {
	x := loaded(t, 4, 9, four()...)
	for range 2 {
		spoil(x.List(), f(77, 7, 7, 7))
		spoil(x.Chain(4, 3), p(77, 7))
		spoil(x.Dead(6), 77)
		lists(t, "what was told is the table's own", x, 9, four()...)
		chains(t, x, 4, 3, p(4, 3), p(3, 4), p(1, 6))
	}
	list, places, dead := x.List(), x.Chain(4, 3), x.Dead(6)
	told(t, "Alone", x.Alone(4), api.OK)
	told(t, "Drop", x.Drop(3), api.OK)
	made(t, x, 1, 1, 0)
	if !slices.Equal(list, four()) || !slices.Equal(places, []medium.Place{p(4, 3), p(3, 4), p(1, 6)}) || !slices.Equal(dead, []uint64{1, 3, 4}) {
		t.Errorf("what was told changes: %v, %v, %v", list, places, dead)
	}
}

func TestP2NilAndEmptyAreTheSame(t *testing.T) {
	lists(t, "Load of an empty list", loaded(t, 4, 9, []api.Medium{}...), 9)
	x := loaded(t, 4, 9, four()...)
	if l := x.Dead([]uint64{}...); !slices.Equal(l, x.Dead()) {
		t.Errorf("Dead of an empty list: %v", l)
	}
}

func TestP3SameCallsSameAnswers(t *testing.T) {
	for seed := range uint64(20) {
		var want []api.Medium
		for i := range 3 {
			r := source(seed)
			s := &shadow{depth: 5, next: 1}
			x := tableOf(t, 5)
			for range 100 {
				change(t, r, x, s)
			}
			if i == 0 {
				want = x.List()
			}
			lists(t, "the same calls", x, s.next, want...)
		}
	}
}

func TestP3AskingChangesNothing(t *testing.T) {
	x := loaded(t, 4, 9, four()...)
	for id := range uint64(12) {
		x.Get(id)
		x.Chain(id, 2)
		x.Deep(id)
		x.Dead(id, 4)
		x.List()
		x.Next()
	}
	lists(t, "behind asking", x, 9, four()...)
}

func TestP4NothingBesideAFalseOrAnError(t *testing.T) {
	x := loaded(t, 2, 9, f(1, 0, 0, 10), f(3, 1, 2, 6), m(6, 0, 0, 1))
	for _, c := range []struct {
		size   int
		target uint64
		at     int
	}{{0, 0, 0}, {1, 0, 1}, {1, 2, 0}, {1, 6, 0}, {1, 3, 0}} {
		if id, e := x.Make(c.size, c.target, c.at); id != 0 || e == api.OK {
			t.Errorf("Make(%v): %d, %v", c, id, e)
		}
	}
	if y, ok := x.Get(2); ok || y != (api.Medium{}) {
		t.Errorf("Get: %v, %v", y, ok)
	}
	if x, e := medium.Load(2, 9, f(1, 0, 0, 1), m(2, 3, 0, 1)); x != nil || e != api.ErrForm {
		t.Errorf("Load: %v, %v", x, e)
	}
	if at, ok := medium.ReadKey(medium.Key(p(5, 6))[:15]); ok || at != p(0, 0) {
		t.Errorf("ReadKey: %v, %v", at, ok)
	}
}

// A Target's Make that is refused does not count as one upon it either.
func TestP5ErrorsChangeNothing(t *testing.T) {
	x := loaded(t, 2, 9, f(1, 0, 0, 10), f(3, 1, 2, 6), m(6, 0, 0, 1))
	for range 3 {
		x.Make(1, 3, 0)
		x.Make(1, 6, 0)
		x.Make(0, 1, 0)
		x.Resize(6, 0)
		x.Resize(3, 90)
		x.Fix(2)
		x.Alone(2)
		x.Drop(1)
	}
	lists(t, "behind errors", x, 9, f(1, 0, 0, 10), f(3, 1, 2, 6), m(6, 0, 0, 1))
	for _, id := range []uint64{6, 3, 1} {
		told(t, "Drop", x.Drop(id), api.OK)
	}
}

func TestP7EachTableIsAnother(t *testing.T) {
	l := four()
	one, other := loaded(t, 4, 9, l...), loaded(t, 4, 9, l...)
	blank := tableOf(t, 4)
	told(t, "Alone", one.Alone(4), api.OK)
	told(t, "Drop", one.Drop(3), api.OK)
	made(t, one, 2, 1, 1)
	lists(t, "the other one", other, 9, l...)
	lists(t, "the one", one, 10, f(1, 0, 0, 10), m(4, 0, 0, 4), m(6, 0, 0, 1), m(9, 1, 1, 2))
	made(t, tableOf(t, 4), 1, 0, 0)
	lists(t, "a blank one", blank, 1)
}
