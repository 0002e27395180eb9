package medium_test

import (
	"math"
	"slices"
	"testing"

	"flint/api"
	"flint/medium"
)

const most = api.MaxBlocks

// m tells a medium that is not fixed, f one that is.
func m(id, target uint64, at, size int) api.Medium {
	return api.Medium{Id: id, Target: target, At: at, Size: size}
}

func f(id, target uint64, at, size int) api.Medium {
	x := m(id, target, at, size)
	x.Fixed = true
	return x
}

func tableOf(t *testing.T, depth int) *medium.Table {
	t.Helper()
	x, e := medium.New(depth)
	if e != api.OK || x == nil {
		t.Fatalf("New(%d): %v", depth, e)
	}
	return x
}

func loaded(t *testing.T, depth int, next uint64, l ...api.Medium) *medium.Table {
	t.Helper()
	x, e := medium.Load(depth, next, l...)
	if e != api.OK || x == nil {
		t.Fatalf("Load(%d, %d, %v): %v", depth, next, l, e)
	}
	return x
}

func made(t *testing.T, x *medium.Table, size int, target uint64, at int) uint64 {
	t.Helper()
	id, e := x.Make(size, target, at)
	if e != api.OK {
		t.Fatalf("Make(%d, %d, %d): %v", size, target, at, e)
	}
	return id
}

func told(t *testing.T, what string, got, want api.Errno) {
	t.Helper()
	if got != want {
		t.Errorf("%s: %v; want %v", what, got, want)
	}
}

// lists holds to what a table tells of all its mediums, and of its next number.
func lists(t *testing.T, what string, x *medium.Table, next uint64, want ...api.Medium) {
	t.Helper()
	if l := x.List(); !slices.Equal(l, want) {
		t.Errorf("%s: List: %v; want %v", what, l, want)
	}
	if n := x.Next(); n != next {
		t.Errorf("%s: Next: %d; want %d", what, n, next)
	}
	for _, y := range want {
		if got, ok := x.Get(y.Id); !ok || got != y {
			t.Errorf("%s: Get(%d): %v, %v; want %v", what, y.Id, got, ok, y)
		}
	}
}

func chains(t *testing.T, x *medium.Table, id uint64, block int, want ...medium.Place) {
	t.Helper()
	if l := x.Chain(id, block); !slices.Equal(l, want) {
		t.Errorf("Chain(%d, %d): %v; want %v", id, block, l, want)
	}
}

func TestP1401New(t *testing.T) {
	for _, depth := range []int{math.MinInt, -1, 0, 65, 66, 128, 1 << 32, 1<<32 + 1, math.MaxInt} {
		x, e := medium.New(depth)
		y, other := medium.Load(depth, 1)
		z, third := medium.Load(depth, 0, m(0, 0, 0, 0))
		if x != nil || y != nil || z != nil || e != api.ErrArg || other != e || third != e {
			t.Errorf("depth %d: %v, %v, %v", depth, e, other, third)
		}
	}
	for depth := 1; depth <= 64; depth++ {
		x := tableOf(t, depth)
		lists(t, "New", x, 1)
		lists(t, "Load of none", loaded(t, depth, 1), 1)
		for i := range depth {
			id := made(t, x, 1, uint64(i), 0)
			told(t, "Fix", x.Fix(id), api.OK)
		}
		_, e := x.Make(1, uint64(depth), 0)
		told(t, "one more than depth", e, api.ErrMany)
		if x.Deep(uint64(depth)) != depth {
			t.Errorf("Deep of the last: %d; want %d", x.Deep(uint64(depth)), depth)
		}
	}
}

func TestP1401Load(t *testing.T) {
	for _, l := range [][]api.Medium{
		{m(1, 0, 0, 1)},
		{m(6, 0, 0, most)},
		{m(1, 0, 0, 1), m(2, 0, 0, 1), m(6, 0, 0, 9)},
		{f(1, 0, 0, 10), m(2, 1, 0, 10)},
		{f(1, 0, 0, 10), m(2, 1, most, 10)},
		{f(1, 0, 0, 10), f(3, 1, 4, 10), m(4, 3, 5, 10)},
		{m(1, 3, 1, 10), f(3, 0, 0, 10)},                // a Target may have the greater Id
		{m(1, 5, 1, 10), f(3, 0, 0, 10), f(5, 3, 2, 2)}, // and one that is beneath it a lesser one again
		{f(1, 2, 0, 1), f(2, 3, 0, 1), f(3, 0, 0, 1)},
		{f(1, 0, 0, 5), m(2, 1, 0, 5), m(3, 1, 0, 5), f(4, 1, 0, 5)},
		{m(1, 0, 7, 5)}, // the chapter asks nothing of At without a Target
	} {
		x := loaded(t, 3, 7, l...)
		lists(t, "Load", x, 7, l...)
		if id := made(t, x, 3, 0, 0); id != 7 {
			t.Errorf("the next number: %d; want 7", id)
		}
	}
	lists(t, "the greatest numbers", loaded(t, 1, math.MaxUint64, m(math.MaxUint64-1, 0, 0, 1)), math.MaxUint64, m(math.MaxUint64-1, 0, 0, 1))
}

func TestP1401LoadRefuses(t *testing.T) {
	for _, c := range []struct {
		why  string
		next uint64
		l    []api.Medium
	}{
		{"no next number", 0, nil},
		{"no next number, with one", 0, []api.Medium{m(1, 0, 0, 1)}},
		{"next is its Id", 1, []api.Medium{m(1, 0, 0, 1)}},
		{"next is below its Id", 5, []api.Medium{m(1, 0, 0, 1), m(6, 0, 0, 1)}},
		{"the greatest Id", math.MaxUint64, []api.Medium{m(math.MaxUint64, 0, 0, 1)}},
		{"Id 0", 9, []api.Medium{m(0, 0, 0, 1)}},
		{"Id 0 ahead of one", 9, []api.Medium{m(0, 0, 0, 1), m(1, 0, 0, 1)}},
		{"an Id twice", 9, []api.Medium{m(1, 0, 0, 1), m(1, 0, 0, 1)}},
		{"falling", 9, []api.Medium{m(2, 0, 0, 1), m(1, 0, 0, 1)}},
		{"falling at the end", 9, []api.Medium{m(2, 0, 0, 1), m(4, 0, 0, 1), m(3, 0, 0, 1)}},
		{"no such Target", 9, []api.Medium{m(1, 2, 0, 1)}},
		{"no such Target beneath", 9, []api.Medium{f(1, 8, 0, 1), m(2, 1, 0, 1)}},
		{"a Target that is not fixed", 9, []api.Medium{m(1, 0, 0, 1), m(2, 1, 0, 1)}},
		{"one that is not fixed, behind", 9, []api.Medium{m(1, 2, 0, 1), m(2, 0, 0, 1)}},
		{"one that is not fixed, beneath", 9, []api.Medium{m(1, 0, 0, 1), f(2, 1, 0, 1), m(3, 2, 0, 1)}},
		{"no Size", 9, []api.Medium{m(1, 0, 0, 0)}},
		{"Size below 0", 9, []api.Medium{m(1, 0, 0, -1)}},
		{"too great", 9, []api.Medium{m(1, 0, 0, most+1)}},
		{"too great by far", 9, []api.Medium{m(1, 0, 0, math.MaxInt)}},
		{"the last one too great", 9, []api.Medium{m(1, 0, 0, 1), m(2, 0, 0, most+1)}},
		{"At below 0", 9, []api.Medium{f(1, 0, 0, 1), m(2, 1, -1, 1)}},
		{"At too great", 9, []api.Medium{f(1, 0, 0, 1), m(2, 1, most+1, 1)}},
		{"At too great by far", 9, []api.Medium{f(1, 0, 0, 1), m(2, 1, math.MaxInt, 1)}},
		{"At below 0 without a Target", 9, []api.Medium{m(1, 0, math.MinInt, 1)}},
		{"At too great without a Target", 9, []api.Medium{m(1, 0, most+1, 1)}},
		{"four of three", 9, []api.Medium{f(1, 0, 0, 1), f(2, 1, 0, 1), f(3, 2, 0, 1), m(4, 3, 0, 1)}},
		{"four of three, also where a block has but one place", 9, []api.Medium{f(1, 0, 0, 1), f(2, 1, most, 1), f(3, 2, most, 1), m(4, 3, most, 1)}},
		{"four of three, the other way", 9, []api.Medium{f(1, 2, 0, 1), f(2, 3, 0, 1), f(3, 4, 0, 1), f(4, 0, 0, 1)}},
		{"itself", 9, []api.Medium{f(1, 1, 0, 1)}},
		{"round by two", 9, []api.Medium{f(1, 2, 0, 1), f(2, 1, 0, 1)}},
		{"round by three", 9, []api.Medium{f(1, 2, 0, 1), f(2, 3, 0, 1), f(3, 1, 0, 1)}},
		{"round beneath", 9, []api.Medium{f(1, 2, 0, 1), f(2, 1, 0, 1), m(3, 1, 0, 1)}},
	} {
		if x, e := medium.Load(3, c.next, c.l...); x != nil || e != api.ErrForm {
			t.Errorf("%s: %v; want form", c.why, e)
		}
	}
	if x, e := medium.Load(64, 9, f(1, 2, 0, 1), f(2, 1, 0, 1)); x != nil || e != api.ErrForm {
		t.Errorf("round, of 64: %v; want form", e)
	}
	if x, e := medium.Load(1, 9, f(1, 0, 0, 1), m(2, 1, 0, 1)); x != nil || e != api.ErrForm {
		t.Errorf("two of one: %v; want form", e)
	}
}

func TestP1402Make(t *testing.T) {
	x := loaded(t, 2, 6, f(1, 0, 0, 10), f(3, 1, 2, 5), m(5, 0, 0, 4))
	for _, c := range []struct {
		size   int
		target uint64
		at     int
		want   api.Errno
	}{
		{0, 0, 0, api.ErrArg},
		{-1, 0, 0, api.ErrArg},
		{math.MinInt, 1, 0, api.ErrArg},
		{most + 1, 0, 0, api.ErrArg},
		{math.MaxInt, 1, 0, api.ErrArg},
		{1, 1, -1, api.ErrArg},
		{1, 1, most + 1, api.ErrArg},
		{1, 1, math.MaxInt, api.ErrArg},
		{1, 0, 1, api.ErrArg},
		{1, 0, most, api.ErrArg},
		{1, 0, -1, api.ErrArg},
		{0, 9, 0, api.ErrArg}, // ahead of ErrNone
		{1, 9, -1, api.ErrArg},
		{0, 5, 0, api.ErrArg}, // ahead of ErrRead
		{1, 3, -1, api.ErrArg},
		{1, 2, 0, api.ErrNone},
		{1, 4, 1, api.ErrNone},
		{1, 6, 0, api.ErrNone},
		{1, math.MaxUint64, 0, api.ErrNone},
		{1, 5, 0, api.ErrRead},
		{1, 5, most, api.ErrRead},
		{1, 3, 0, api.ErrMany},
		{1, 3, most, api.ErrMany},
	} {
		id, e := x.Make(c.size, c.target, c.at)
		if id != 0 || e != c.want {
			t.Errorf("Make(%d, %d, %d): %d, %v; want %v", c.size, c.target, c.at, id, e, c.want)
		}
	}
	all := []api.Medium{f(1, 0, 0, 10), f(3, 1, 2, 5), m(5, 0, 0, 4)}
	lists(t, "behind errors", x, 6, all...)
	for _, y := range []api.Medium{m(6, 0, 0, 1), m(7, 0, 0, most), m(8, 1, 0, 3), m(9, 1, most, most), m(10, 1, 10, 1)} {
		if id := made(t, x, y.Size, y.Target, y.At); id != y.Id {
			t.Errorf("Make: %d; want %d", id, y.Id)
		}
		all = append(all, y)
		lists(t, "Make", x, y.Id+1, all...)
	}
}

// One that is not fixed, upon as many as may be, is told as such: ErrRead comes ahead of ErrMany.
func TestP1402MakeUponTheDeepest(t *testing.T) {
	x := loaded(t, 2, 3, f(1, 0, 0, 10), m(2, 1, 0, 10))
	_, e := x.Make(1, 2, 0)
	told(t, "not fixed", e, api.ErrRead)
	told(t, "Fix", x.Fix(2), api.OK)
	_, e = x.Make(1, 2, 0)
	told(t, "fixed", e, api.ErrMany)
	told(t, "Alone", x.Alone(2), api.OK)
	made(t, x, 1, 2, 0)
}

func TestP1402NumbersAreNotGivenTwice(t *testing.T) {
	x := tableOf(t, 4)
	for id := uint64(1); id < 9; id++ {
		if got := made(t, x, 1, 0, 0); got != id {
			t.Fatalf("Make: %d; want %d", got, id)
		}
		told(t, "Drop", x.Drop(id), api.OK)
		lists(t, "behind a Drop", x, id+1)
	}
}

// Behind the greatest number there is none.
func TestP1402TheLastNumber(t *testing.T) {
	x := loaded(t, 2, math.MaxUint64)
	if id := made(t, x, 5, 0, 0); id != math.MaxUint64 {
		t.Errorf("Make: %d", id)
	}
	want := m(math.MaxUint64, 0, 0, 5)
	lists(t, "the last", x, 0, want)
	for range 2 {
		id, e := x.Make(5, 0, 0)
		if id != 0 || e != api.ErrMany {
			t.Errorf("Make: %d, %v; want many", id, e)
		}
		_, e = x.Make(5, 8, 0)
		told(t, "no such Target", e, api.ErrNone)
	}
	lists(t, "behind errors", x, 0, want)
}

func TestP1402Get(t *testing.T) {
	x := loaded(t, 4, 9, f(2, 0, 0, 10), m(5, 2, 4, 3))
	for id := range uint64(12) {
		y, ok := x.Get(id)
		switch {
		case id == 2 && (!ok || y != f(2, 0, 0, 10)), id == 5 && (!ok || y != m(5, 2, 4, 3)):
			t.Errorf("Get(%d): %v, %v", id, y, ok)
		case id != 2 && id != 5 && (ok || y != api.Medium{}):
			t.Errorf("Get(%d): %v, %v; want none", id, y, ok)
		}
	}
}

func TestP1402Fix(t *testing.T) {
	x := loaded(t, 4, 9, f(2, 0, 0, 10), m(5, 2, 4, 3))
	for _, id := range []uint64{0, 1, 3, 9, math.MaxUint64} {
		told(t, "Fix", x.Fix(id), api.ErrNone)
	}
	lists(t, "behind errors", x, 9, f(2, 0, 0, 10), m(5, 2, 4, 3))
	for range 2 { // one that is fixed may be fixed again
		told(t, "Fix", x.Fix(5), api.OK)
		lists(t, "Fix", x, 9, f(2, 0, 0, 10), f(5, 2, 4, 3))
	}
	made(t, x, 1, 5, 0)
}

func TestP1402Resize(t *testing.T) {
	x := loaded(t, 4, 9, f(2, 0, 0, 10), m(5, 2, 4, 3))
	for _, c := range []struct {
		id   uint64
		size int
		want api.Errno
	}{
		{0, 5, api.ErrNone},
		{1, 5, api.ErrNone},
		{9, 5, api.ErrNone},
		{3, 0, api.ErrNone}, // ahead of ErrArg
		{2, 20, api.ErrRead},
		{2, 10, api.ErrRead},
		{2, 9, api.ErrRead}, // ahead of ErrArg, too
		{2, most + 1, api.ErrRead},
		{5, 2, api.ErrArg},
		{5, 0, api.ErrArg},
		{5, -3, api.ErrArg},
		{5, math.MinInt, api.ErrArg},
		{5, most + 1, api.ErrArg},
		{5, math.MaxInt, api.ErrArg},
	} {
		told(t, "Resize", x.Resize(c.id, c.size), c.want)
		lists(t, "behind an error", x, 9, f(2, 0, 0, 10), m(5, 2, 4, 3))
	}
	for _, size := range []int{3, 4, 4, 1000, most, most} {
		told(t, "Resize", x.Resize(5, size), api.OK)
		lists(t, "Resize", x, 9, f(2, 0, 0, 10), m(5, 2, 4, size))
	}
	told(t, "less again", x.Resize(5, most-1), api.ErrArg)
}

func TestP1402Alone(t *testing.T) {
	x := loaded(t, 4, 9, f(1, 0, 0, 10), f(3, 1, 2, 8), m(5, 3, 4, 3), m(6, 3, 1, 1))
	for _, id := range []uint64{0, 2, 9, math.MaxUint64} {
		told(t, "Alone", x.Alone(id), api.ErrNone)
	}
	told(t, "of one alone", x.Alone(1), api.OK)
	lists(t, "as it was", x, 9, f(1, 0, 0, 10), f(3, 1, 2, 8), m(5, 3, 4, 3), m(6, 3, 1, 1))
	told(t, "of one upon another", x.Alone(5), api.OK)
	lists(t, "Alone", x, 9, f(1, 0, 0, 10), f(3, 1, 2, 8), m(5, 0, 0, 3), m(6, 3, 1, 1))
	told(t, "of one that is fixed", x.Alone(3), api.OK)
	lists(t, "Alone", x, 9, f(1, 0, 0, 10), f(3, 0, 0, 8), m(5, 0, 0, 3), m(6, 3, 1, 1))
	told(t, "Drop of what it was upon", x.Drop(1), api.OK)
	told(t, "Drop of what another is upon yet", x.Drop(3), api.ErrHave)
}

// Where a medium had no Target, its At is none behind Alone, too.
func TestP1402AloneTakesAt(t *testing.T) {
	x := loaded(t, 1, 2, m(1, 0, 5, 5))
	told(t, "Alone", x.Alone(1), api.OK)
	lists(t, "Alone", x, 2, m(1, 0, 0, 5))
}

func TestP1402Drop(t *testing.T) {
	x := loaded(t, 4, 9, f(1, 0, 0, 10), f(3, 1, 2, 8), m(5, 3, 4, 3), m(6, 3, 1, 1), f(7, 0, 0, 2))
	for _, id := range []uint64{0, 2, 9, math.MaxUint64} {
		told(t, "Drop", x.Drop(id), api.ErrNone)
	}
	told(t, "with one upon it", x.Drop(1), api.ErrHave)
	told(t, "with two upon it", x.Drop(3), api.ErrHave)
	lists(t, "behind errors", x, 9, f(1, 0, 0, 10), f(3, 1, 2, 8), m(5, 3, 4, 3), m(6, 3, 1, 1), f(7, 0, 0, 2))
	told(t, "fixed, with none upon it", x.Drop(7), api.OK)
	told(t, "Drop", x.Drop(5), api.OK)
	told(t, "again", x.Drop(5), api.ErrNone)
	told(t, "with one upon it yet", x.Drop(3), api.ErrHave)
	told(t, "Drop", x.Drop(6), api.OK)
	lists(t, "Drop", x, 9, f(1, 0, 0, 10), f(3, 1, 2, 8))
	told(t, "with none upon it any more", x.Drop(3), api.OK)
	told(t, "with none upon it any more", x.Drop(1), api.OK)
	lists(t, "Drop", x, 9)
	_, e := x.Make(1, 3, 0)
	told(t, "Make upon one that is gone", e, api.ErrNone)
}

// Whatever makes a medium, and however its Target was told, it keeps its Target from being dropped.
func TestP1402DropBeneath(t *testing.T) {
	x := loaded(t, 3, 5, m(1, 3, 0, 5), f(3, 0, 0, 5))
	told(t, "with one of a lesser number upon it", x.Drop(3), api.ErrHave)
	id := made(t, x, 5, 3, 1)
	told(t, "Drop", x.Drop(1), api.OK)
	told(t, "with one that was made", x.Drop(3), api.ErrHave)
	told(t, "Fix", x.Fix(id), api.OK)
	told(t, "Fix", x.Fix(3), api.OK)
	told(t, "behind Fix", x.Drop(3), api.ErrHave)
	last := made(t, x, 5, id, 1)
	told(t, "Resize", x.Resize(last, 9), api.OK)
	told(t, "behind Resize", x.Drop(id), api.ErrHave)
	told(t, "Alone", x.Alone(id), api.OK)
	told(t, "Alone again", x.Alone(id), api.OK)
	told(t, "with none upon it any more", x.Drop(3), api.OK)
	told(t, "of one that was made alone", x.Drop(id), api.ErrHave)
	told(t, "of what is upon it", x.Drop(last), api.OK)
	told(t, "of one that was made alone", x.Drop(id), api.OK)
	lists(t, "Drop", x, 7)
}
