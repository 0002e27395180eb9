package medium_test

import (
	"math"
	"slices"
	"testing"

	"flint/api"
	"flint/medium"
)

// p tells a place.
func p(id uint64, block int) medium.Place {
	return medium.Place{Medium: id, Block: block}
}

func TestP1403Example(t *testing.T) {
	x := tableOf(t, 4)
	if id := made(t, x, 10, 0, 0); id != 1 {
		t.Errorf("Make: %d; want 1", id)
	}
	told(t, "Fix", x.Fix(1), api.OK)
	if id := made(t, x, 5, 1, 4); id != 2 {
		t.Errorf("Make: %d; want 2", id)
	}
	chains(t, x, 2, 3, p(2, 3), p(1, 7))
	if id := made(t, x, 9, 1, 4); id != 3 {
		t.Errorf("Make: %d; want 3", id)
	}
	chains(t, x, 3, 6, p(3, 6))
	chains(t, x, 3, 5, p(3, 5), p(1, 9)) // the last block of 1
}

func TestP1403Chain(t *testing.T) {
	x := loaded(t, 4, 9, f(1, 0, 0, 10), f(3, 1, 2, 6), f(4, 3, 1, 20), m(5, 4, 3, 30), m(6, 0, 0, 1), m(7, 1, most, most))
	chains(t, x, 1, 0, p(1, 0))
	chains(t, x, 1, 9, p(1, 9))
	chains(t, x, 3, 0, p(3, 0), p(1, 2))
	chains(t, x, 3, 5, p(3, 5), p(1, 7))
	chains(t, x, 4, 4, p(4, 4), p(3, 5), p(1, 7))
	chains(t, x, 4, 5, p(4, 5)) // block 6 of 3, which has six: what is beneath it does not count either
	chains(t, x, 5, 0, p(5, 0), p(4, 3), p(3, 4), p(1, 6))
	chains(t, x, 5, 1, p(5, 1), p(4, 4), p(3, 5), p(1, 7))
	chains(t, x, 5, 2, p(5, 2), p(4, 5))
	chains(t, x, 5, 16, p(5, 16), p(4, 19))
	chains(t, x, 5, 17, p(5, 17))
	chains(t, x, 5, 29, p(5, 29))
	chains(t, x, 6, 0, p(6, 0))
	chains(t, x, 7, 0, p(7, 0))
	chains(t, x, 7, most-1, p(7, most-1))
	for _, id := range []uint64{1, 3, 4, 5, 6, 7} {
		y, _ := x.Get(id)
		for _, block := range []int{math.MinInt, -1, y.Size, y.Size + 1, most, most + 1, math.MaxInt - 1, math.MaxInt} {
			chains(t, x, id, block)
		}
	}
	for _, id := range []uint64{0, 2, 8, 9, math.MaxUint64} {
		chains(t, x, id, 0)
		chains(t, x, id, 3)
	}
}

// At counts where there is a Target alone.
func TestP1403ChainWithoutATarget(t *testing.T) {
	chains(t, loaded(t, 2, 9, m(1, 0, 3, 5)), 1, 1, p(1, 1))
}

func TestP1403ChainBehindChanges(t *testing.T) {
	x := loaded(t, 4, 9, f(1, 0, 0, 10), f(3, 1, 2, 6), m(4, 3, 1, 4))
	chains(t, x, 4, 4)
	told(t, "Resize", x.Resize(4, 5), api.OK)
	chains(t, x, 4, 4, p(4, 4), p(3, 5), p(1, 7))
	told(t, "Alone", x.Alone(3), api.OK)
	chains(t, x, 4, 4, p(4, 4), p(3, 5))
	told(t, "Alone", x.Alone(4), api.OK)
	chains(t, x, 4, 4, p(4, 4))
	told(t, "Drop", x.Drop(4), api.OK)
	chains(t, x, 4, 4)
}

func TestP1403Deep(t *testing.T) {
	x := loaded(t, 4, 9, f(1, 0, 0, 1), f(3, 1, most, 1), f(4, 3, 0, 1), m(5, 4, most, 1), m(6, 0, 0, 1), m(7, 8, 0, 1), f(8, 1, 0, 1))
	for id, want := range []int{0, 1, 0, 2, 3, 4, 1, 3, 2, 0} {
		if n := x.Deep(uint64(id)); n != want {
			t.Errorf("Deep(%d): %d; want %d", id, n, want)
		}
	}
	told(t, "Alone", x.Alone(3), api.OK)
	if x.Deep(5) != 3 || x.Deep(4) != 2 || x.Deep(3) != 1 || x.Deep(7) != 3 {
		t.Error("behind Alone of 3")
	}
}

func TestP1404Dead(t *testing.T) {
	x := loaded(t, 4, 20, f(1, 0, 0, 1), f(3, 1, 0, 1), f(4, 3, 0, 1), m(5, 4, 0, 1), m(6, 0, 0, 1), m(7, 10, 0, 1), f(9, 1, 0, 1), f(10, 3, 9, 1))
	all := []uint64{1, 3, 4, 5, 6, 7, 9, 10}
	for _, c := range []struct{ roots, want []uint64 }{
		{nil, all},
		{[]uint64{1}, []uint64{3, 4, 5, 6, 7, 9, 10}},
		{[]uint64{6}, []uint64{1, 3, 4, 5, 7, 9, 10}},
		{[]uint64{5}, []uint64{6, 7, 9, 10}},
		{[]uint64{4}, []uint64{5, 6, 7, 9, 10}},
		{[]uint64{7}, []uint64{4, 5, 6, 9}},
		{[]uint64{5, 7}, []uint64{6, 9}},
		{[]uint64{7, 5}, []uint64{6, 9}},
		{[]uint64{7, 5, 6, 9}, nil},
		{[]uint64{3, 4, 9, 3}, []uint64{5, 6, 7, 10}},
		{[]uint64{4, 4, 4}, []uint64{5, 6, 7, 9, 10}},
		{[]uint64{0, 2, 8, 19, 20, math.MaxUint64}, all}, // no mediums
		{[]uint64{2, 6, 0}, []uint64{1, 3, 4, 5, 7, 9, 10}},
		{all, nil},
	} {
		if l := x.Dead(c.roots...); !slices.Equal(l, c.want) {
			t.Errorf("Dead(%v): %v; want %v", c.roots, l, c.want)
		}
	}
	if len(tableOf(t, 1).Dead(1, 2)) != 0 {
		t.Error("Dead of none")
	}
}

// What is dead can be dropped, if what lies upon others goes first.
func TestP1404TheDeadMayGo(t *testing.T) {
	x := loaded(t, 4, 20, f(1, 0, 0, 1), f(3, 1, 0, 1), f(4, 3, 0, 1), m(5, 4, 0, 1), f(9, 1, 0, 1))
	l := x.Dead(9)
	slices.Reverse(l)
	for _, id := range l {
		told(t, "Drop", x.Drop(id), api.OK)
	}
	lists(t, "what is left", x, 20, f(1, 0, 0, 1), f(9, 1, 0, 1))
	if l := x.Dead(9); len(l) != 0 {
		t.Errorf("Dead: %v", l)
	}
}

func TestP1404List(t *testing.T) {
	x := tableOf(t, 2)
	var want []api.Medium
	for i := range 300 {
		want = append(want, m(uint64(i+1), 0, 0, i+1))
		made(t, x, i+1, 0, 0)
	}
	lists(t, "300", x, 301, want...)
	for id := uint64(300); id > 0; id -= 3 {
		told(t, "Drop", x.Drop(id), api.OK)
	}
	want = slices.DeleteFunc(want, func(y api.Medium) bool { return y.Id%3 == 0 })
	lists(t, "200", x, 301, want...)
	lists(t, "loaded anew", loaded(t, 2, x.Next(), x.List()...), 301, want...)
}

func TestP1406ChainsHaveAtMostDepthPlaces(t *testing.T) {
	for _, depth := range []int{1, 2, 7, 64} {
		x := tableOf(t, depth)
		id := uint64(0)
		for range depth {
			id = made(t, x, 100, id, 0)
			told(t, "Fix", x.Fix(id), api.OK)
		}
		l := x.Chain(id, 99)
		if len(l) != depth || x.Deep(id) != depth {
			t.Errorf("depth %d: %d places", depth, len(l))
		}
		for i, at := range l {
			if at != p(id-uint64(i), 99) {
				t.Errorf("depth %d: place %d: %v", depth, i, at)
			}
		}
	}
}

// What happens to mediums that a chain does not go through changes nothing of it.
func TestP1406OthersDoNotCount(t *testing.T) {
	x := loaded(t, 4, 9, f(1, 0, 0, 10), f(3, 1, 2, 6), m(4, 3, 1, 4), m(5, 3, 0, 6), f(6, 0, 0, 10), m(7, 6, 0, 10))
	told(t, "Resize", x.Resize(5, 50), api.OK)
	told(t, "Alone", x.Alone(5), api.OK)
	told(t, "Drop", x.Drop(7), api.OK)
	told(t, "Drop", x.Drop(6), api.OK)
	told(t, "Fix", x.Fix(4), api.OK)
	made(t, x, 10, 4, 0)
	chains(t, x, 4, 3, p(4, 3), p(3, 4), p(1, 6))
}
