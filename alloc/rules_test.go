package alloc_test

import (
	"math"
	"slices"
	"testing"

	"flint/alloc"
	"flint/api"
)

// calls calls everything with numbers of any kind.
func calls(tab *alloc.Table) {
	numbers := []int{math.MinInt, math.MinInt32, -1, 0, 1, 2, 3, 31, 32, 33, 4095, 4096, math.MaxInt32, math.MaxInt}
	for _, a := range numbers {
		tab.Take(a)
		tab.TakeOn(a)
		tab.Count(a)
		tab.FreeOn(a)
		tab.Sets(a)
		for _, b := range numbers {
			tab.Take(a, b)
			tab.Take(1, a, b, a)
			tab.State(u(a, b))
			tab.Set(a, u(b, a), u(0, 0))
			tab.Set(alloc.Held, u(a, b))
		}
		tab.Release()
	}
}

func TestP1AnyNumbers(t *testing.T) {
	for _, shape := range [][2]int{{1, 1}, {3, 2}, {api.MaxDrives, 3}, {2, api.MaxZones}} {
		tab := table(t, shape[0], shape[1])
		calls(tab)
		calls(tab.Twin())
		n := 0
		for state := range 4 {
			n += tab.Count(state)
		}
		if n != shape[0]*shape[1] {
			t.Errorf("%v: %d units have a state", shape, n)
		}
	}
}

func TestP1ATableThatWasNotMade(t *testing.T) {
	var tab alloc.Table
	for range 2 {
		calls(&tab)
		calls(tab.Twin())
		takesNot(t, &tab, api.ErrFull, 1)
		takesNotOn(t, &tab, api.ErrArg, 0)
		states(t, &tab, alloc.Out, u(0, 0))
		counts(t, &tab, 0, 0, 0, 0)
	}
}

func TestP2ListsHandedInAreNotChangedOrKept(t *testing.T) {
	tab := table(t, 4, 3)
	without := append(make([]int, 0, 8), 3, 1, 9)
	was := slices.Clone(without[:8])
	takes(t, tab, us(0, 0, 2, 0), 2, without...)
	if !slices.Equal(without[:8], was) {
		t.Errorf("Take changes what it is handed, or its spare room: %v", without[:8])
	}
	units := append(make([]api.Unit, 0, 8), us(3, 1, 1, 2, 0, 1)...)
	were := slices.Clone(units[:8])
	set(t, tab, alloc.Held, units...)
	if e := tab.Set(alloc.Held, append(units, u(4, 0))...); e != api.ErrArg {
		t.Errorf("%v", e)
	}
	were[3] = u(4, 0)
	if !slices.Equal(units[:8], were) {
		t.Errorf("Set changes what it is handed, or its spare room: %v", units[:8])
	}
	clear(units[:8])
	states(t, tab, alloc.Held, us(3, 1, 1, 2, 0, 1)...)
}

func TestP2AnswersAreNewMemory(t *testing.T) {
	tab := table(t, 4, 3)
	spoil := func(units []api.Unit) {
		for i := range units[:cap(units)] {
			units[:cap(units)][i] = u(-7, -7)
		}
	}
	first, _ := tab.Take(3)
	second, _ := tab.Take(3)
	spoil(first)
	if !slices.Equal(second, us(0, 1, 1, 1, 3, 0)) {
		t.Errorf("two answers share memory: %v", second)
	}
	spoil(second)
	set(t, tab, alloc.Held, us(2, 0, 0, 0)...)
	spoil(tab.Release())
	takes(t, tab, us(0, 0, 2, 0, 3, 1), 3)
	counts(t, tab, 5, 7, 0, 0)
}

func TestP3SameCallsSameAnswers(t *testing.T) {
	a, b := table(t, 5, 6), table(t, 5, 6)
	for i := range 60 {
		unit := u(i*7%5, i*11%6)
		set(t, a, i%4, unit)
		set(t, b, i%4, unit)
		x, e := a.Take(1+i%3, i%5)
		y, f := b.Take(1+i%3, i%5)
		if e != f || !slices.Equal(x, y) {
			t.Fatalf("step %d: %v, %v; %v, %v", i, x, e, y, f)
		}
		if i%9 == 0 {
			if x, y := a.Release(), b.Release(); !slices.Equal(x, y) {
				t.Fatalf("step %d: %v; %v", i, x, y)
			}
		}
	}
}

func TestP5ErrorsChangeNothing(t *testing.T) {
	tab := table(t, 3, 3)
	set(t, tab, alloc.Held, us(0, 1, 2, 2)...)
	set(t, tab, alloc.Taken, us(1, 0, 1, 1, 1, 2)...)
	was := tab.Twin()
	for _, n := range append(far, 0, 3, 33) {
		if _, e := tab.Take(n); e == api.OK {
			t.Errorf("Take(%d) is done", n)
		}
	}
	takesNot(t, tab, api.ErrFull, 2, 0)
	takesNotOn(t, tab, api.ErrFull, 1)
	takesNotOn(t, tab, api.ErrArg, 3)
	for _, units := range [][]api.Unit{us(0, 0, 0, 3), us(2, 2, 3, 0), us(-1, 0, 0, 0)} {
		if e := tab.Set(alloc.Out, units...); e != api.ErrArg {
			t.Errorf("Set(%v): %v", units, e)
		}
	}
	if e := tab.Set(4, us(0, 0)...); e != api.ErrArg {
		t.Errorf("%v", e)
	}
	if !alike(tab, was, 3, 3) {
		t.Error("an error has changed the table")
	}
	takes(t, tab, us(0, 0, 2, 0), 2)
}
