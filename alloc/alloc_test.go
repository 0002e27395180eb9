package alloc_test

import (
	"math"
	"slices"
	"testing"

	"flint/alloc"
	"flint/api"
)

// table is a New that must be done.
func table(t *testing.T, drives, zones int) *alloc.Table {
	t.Helper()
	tab, e := alloc.New(drives, zones)
	if e != api.OK || tab == nil {
		t.Fatalf("New(%d, %d): %v", drives, zones, e)
	}
	return tab
}

// u is a unit, us are several: a drive, a zone, a drive, a zone, and so on.
func u(drive, zone int) api.Unit {
	return api.Unit{Drive: drive, Zone: zone}
}

func us(places ...int) []api.Unit {
	var units []api.Unit
	for p := range slices.Chunk(places, 2) {
		units = append(units, u(p[0], p[1]))
	}
	return units
}

// every tells all units of a table of that shape.
func every(drives, zones int) []api.Unit {
	var units []api.Unit
	for d := range drives {
		for z := range zones {
			units = append(units, u(d, z))
		}
	}
	return units
}

// set, takes, takesOn are calls that must be done.
func set(t *testing.T, tab *alloc.Table, state int, units ...api.Unit) {
	t.Helper()
	if e := tab.Set(state, units...); e != api.OK {
		t.Fatalf("Set(%d, %v): %v", state, units, e)
	}
}

func takes(t *testing.T, tab *alloc.Table, want []api.Unit, n int, without ...int) {
	t.Helper()
	if units, e := tab.Take(n, without...); e != api.OK || !slices.Equal(units, want) {
		t.Errorf("Take(%d, %v): %v, %v; want %v", n, without, units, e, want)
	}
}

func takesOn(t *testing.T, tab *alloc.Table, drive, zone int) {
	t.Helper()
	if unit, e := tab.TakeOn(drive); e != api.OK || unit != u(drive, zone) {
		t.Errorf("TakeOn(%d): %v, %v; want zone %d", drive, unit, e, zone)
	}
}

// takesNot asks that Take answers an error, and nothing beside it.
func takesNot(t *testing.T, tab *alloc.Table, want api.Errno, n int, without ...int) {
	t.Helper()
	if units, e := tab.Take(n, without...); e != want || len(units) != 0 {
		t.Errorf("Take(%d, %v): %v, %v; want %v", n, without, units, e, want)
	}
}

func takesNotOn(t *testing.T, tab *alloc.Table, want api.Errno, drive int) {
	t.Helper()
	if unit, e := tab.TakeOn(drive); e != want || unit != (api.Unit{}) {
		t.Errorf("TakeOn(%d): %v, %v; want %v", drive, unit, e, want)
	}
}

// counts asks how many units have each state.
func counts(t *testing.T, tab *alloc.Table, free, taken, held, out int) {
	t.Helper()
	for state, want := range []int{alloc.Free: free, alloc.Taken: taken, alloc.Held: held, alloc.Out: out} {
		if n := tab.Count(state); n != want {
			t.Errorf("Count(%d): %d; want %d", state, n, want)
		}
	}
}

// freeOn asks how many free units each drive has, from the first one on.
func freeOn(t *testing.T, tab *alloc.Table, want ...int) {
	t.Helper()
	for d, n := range want {
		if got := tab.FreeOn(d); got != n {
			t.Errorf("FreeOn(%d): %d; want %d", d, got, n)
		}
	}
}

func states(t *testing.T, tab *alloc.Table, want int, units ...api.Unit) {
	t.Helper()
	for _, unit := range units {
		if s := tab.State(unit); s != want {
			t.Errorf("State(%v): %d; want %d", unit, s, want)
		}
	}
}

// far are numbers that are nobody's place.
var far = []int{-1, -2, 1 << 20, math.MaxInt32, math.MaxInt, math.MinInt32, math.MinInt}

func TestP801StatesAreThese(t *testing.T) {
	if alloc.Free != 0 || alloc.Taken != 1 || alloc.Held != 2 || alloc.Out != 3 {
		t.Error(alloc.Free, alloc.Taken, alloc.Held, alloc.Out)
	}
}

func TestP801NewIsFree(t *testing.T) {
	for _, shape := range [][2]int{{1, 1}, {3, 2}, {2, 7}, {api.MaxDrives, 1}, {1, api.MaxZones}, {api.MaxDrives, api.MaxZones}} {
		drives, zones := shape[0], shape[1]
		tab := table(t, drives, zones)
		counts(t, tab, drives*zones, 0, 0, 0)
		states(t, tab, alloc.Free, every(drives, zones)...)
		for d := range drives {
			freeOn(t, tab, slices.Repeat([]int{zones}, d+1)...)
		}
		for _, n := range append(far, drives) {
			states(t, tab, alloc.Out, u(n, 0))
		}
		for _, n := range append(far, zones) {
			states(t, tab, alloc.Out, u(0, n), u(drives-1, n), u(n, n))
		}
	}
}

func TestP801NewOfNoShape(t *testing.T) {
	for _, shape := range [][2]int{{0, 1}, {1, 0}, {0, 0}, {api.MaxDrives + 1, 1}, {1, api.MaxZones + 1}, {api.MaxDrives + 1, api.MaxZones + 1}} {
		if tab, e := alloc.New(shape[0], shape[1]); e != api.ErrArg || tab != nil {
			t.Errorf("New(%v): %v, %v", shape, tab, e)
		}
	}
	for _, n := range far {
		for _, shape := range [][2]int{{n, 1}, {1, n}, {n, n}} {
			if tab, e := alloc.New(shape[0], shape[1]); e != api.ErrArg || tab != nil {
				t.Errorf("New(%v): %v, %v", shape, tab, e)
			}
		}
	}
}

func TestP801StateCountFreeOn(t *testing.T) {
	tab := table(t, 3, 4)
	set(t, tab, alloc.Taken, us(0, 0, 0, 1, 1, 3)...)
	set(t, tab, alloc.Held, us(1, 0, 1, 1, 1, 2, 2, 0)...)
	set(t, tab, alloc.Out, us(2, 1)...)
	counts(t, tab, 4, 3, 4, 1)
	freeOn(t, tab, 2, 0, 2)
	states(t, tab, alloc.Free, us(0, 2, 0, 3, 2, 2, 2, 3)...)
	states(t, tab, alloc.Taken, us(0, 0, 0, 1, 1, 3)...)
	states(t, tab, alloc.Held, us(1, 0, 1, 1, 1, 2, 2, 0)...)
	states(t, tab, alloc.Out, us(2, 1, 3, 0, -1, 0, 0, 4, 0, -1)...)
}

// Of drives, and states, that there are not nothing is counted: not those units that there are not as Out, either.
func TestP801CountsOfWhatThereIsNot(t *testing.T) {
	tab := table(t, 3, 4)
	tab.Take(2)
	for _, n := range append(far, 3, 4) {
		if c := tab.FreeOn(n); c != 0 {
			t.Errorf("FreeOn(%d): %d", n, c)
		}
	}
	for _, n := range append(far, 4, 5) {
		if c := tab.Count(n); c != 0 {
			t.Errorf("Count(%d): %d", n, c)
		}
	}
	counts(t, tab, 10, 2, 0, 0)
}

func TestP802Example(t *testing.T) {
	tab := table(t, 3, 2)
	takes(t, tab, us(0, 0, 1, 0), 2)
	takes(t, tab, us(0, 1, 2, 0), 2)
	if n := tab.Sets(2); n != 1 {
		t.Errorf("Sets(2): %d; want 1", n)
	}
	takes(t, tab, us(1, 1, 2, 1), 2)
	takesNot(t, tab, api.ErrFull, 2)
	counts(t, tab, 0, 6, 0, 0)
}

func TestP802TakeGoesToTheDrivesWithMostFree(t *testing.T) {
	tab := table(t, 4, 6)
	set(t, tab, alloc.Taken, us(0, 0, 0, 1, 0, 2)...) // 3 free
	set(t, tab, alloc.Held, us(1, 0)...)              // 5
	set(t, tab, alloc.Out, us(2, 5, 2, 1)...)         // 4
	takes(t, tab, us(3, 0), 1)
	takes(t, tab, us(1, 1), 1)                   // 1 and 3 have 5: the lowest
	takes(t, tab, us(3, 1), 1)                   // 3 alone has 5
	takes(t, tab, us(1, 2, 2, 0), 2)             // 1, 2 and 3 have 4: the lowest two
	takes(t, tab, us(0, 3, 1, 3, 3, 2), 3)       // 3 has 4, the others 3
	takes(t, tab, us(0, 4, 1, 4, 2, 2, 3, 3), 4) // 2, 2, 3, 3
	freeOn(t, tab, 1, 1, 2, 2)
	takes(t, tab, us(2, 3, 3, 4), 2)
	takes(t, tab, us(0, 5, 1, 5, 2, 4, 3, 5), 4)
	takesNot(t, tab, api.ErrFull, 1)
}

func TestP802TakeGoesToTheLowestFreeUnit(t *testing.T) {
	tab := table(t, 1, 6)
	set(t, tab, alloc.Taken, us(0, 0, 0, 3)...)
	takes(t, tab, us(0, 1), 1)
	set(t, tab, alloc.Out, us(0, 2)...)
	takes(t, tab, us(0, 4), 1)
	set(t, tab, alloc.Free, us(0, 3)...)
	set(t, tab, alloc.Free, us(0, 1)...)
	set(t, tab, alloc.Free, us(0, 2)...)
	takes(t, tab, us(0, 1), 1)
	takes(t, tab, us(0, 2), 1)
	set(t, tab, alloc.Free, us(0, 0)...)
	set(t, tab, alloc.Held, us(0, 0)...)
	takes(t, tab, us(0, 3), 1)
	takes(t, tab, us(0, 5), 1)
	takesNot(t, tab, api.ErrFull, 1)
	tab.Release()
	takes(t, tab, us(0, 0), 1)
}

func TestP802TakeWithout(t *testing.T) {
	tab := table(t, 4, 2)
	takes(t, tab, us(1, 0, 3, 0), 2, 0, 2)
	takes(t, tab, us(2, 0), 1, 0)
	takes(t, tab, us(0, 0), 1, 1, 1, 1, 2)
	takes(t, tab, us(0, 1), 1, append(far, 4, 5)...) // those that there are not take nothing away
	takesNot(t, tab, api.ErrFull, 3, 2)
	takesNot(t, tab, api.ErrFull, 2, 1, 2)
	takesNot(t, tab, api.ErrFull, 1, 3, 2, 1, 0)
	takesNot(t, tab, api.ErrFull, 1, 1, 2, 3)
	takes(t, tab, us(1, 1, 3, 1), 2, 2)
	takes(t, tab, us(2, 1), 1)
}

func TestP802TakeOfNoNumber(t *testing.T) {
	tab := table(t, 2, 2)
	for _, n := range append(far, 0, api.MaxDrives+1) {
		takesNot(t, tab, api.ErrArg, n)
		takesNot(t, tab, api.ErrArg, n, 0, 1) // ErrFull is named behind it
	}
	for n := 3; n <= api.MaxDrives; n++ {
		takesNot(t, tab, api.ErrFull, n)
	}
	counts(t, tab, 4, 0, 0, 0)
	all := table(t, api.MaxDrives, 1)
	takes(t, all, every(api.MaxDrives, 1), api.MaxDrives)
	takesNot(t, all, api.ErrFull, 1)
	takesNot(t, all, api.ErrFull, api.MaxDrives)
}

func TestP802TakeOn(t *testing.T) {
	tab := table(t, 3, 3)
	takesOn(t, tab, 1, 0)
	takesOn(t, tab, 1, 1)
	set(t, tab, alloc.Free, us(1, 0)...)
	takesOn(t, tab, 1, 0)
	takesOn(t, tab, 1, 2)
	takesNotOn(t, tab, api.ErrFull, 1)
	takesOn(t, tab, 2, 0)
	set(t, tab, alloc.Held, us(0, 0, 0, 1)...)
	takesOn(t, tab, 0, 2)
	takesNotOn(t, tab, api.ErrFull, 0)
	for _, n := range append(far, 3) {
		takesNotOn(t, tab, api.ErrArg, n)
	}
	counts(t, tab, 2, 5, 2, 0)
	freeOn(t, tab, 0, 0, 2)
}

func TestP803SetAnyStateBehindAnyOther(t *testing.T) {
	for from := range 4 {
		for to := range 4 {
			tab := table(t, 2, 3)
			set(t, tab, from, us(0, 0, 0, 2, 1, 1)...)
			set(t, tab, to, us(0, 2, 1, 1)...)
			states(t, tab, from, u(0, 0))
			states(t, tab, to, us(0, 2, 1, 1)...)
			states(t, tab, alloc.Free, us(0, 1, 1, 0, 1, 2)...)
			var want [4]int
			want[from]++
			want[to] += 2
			want[alloc.Free] += 3
			counts(t, tab, want[0], want[1], want[2], want[3])
		}
	}
}

func TestP803SetOneUnitTwice(t *testing.T) {
	tab := table(t, 1, 3)
	for _, state := range []int{alloc.Taken, alloc.Held, alloc.Out, alloc.Free} {
		set(t, tab, state, us(0, 1, 0, 1, 0, 1)...)
		set(t, tab, state, u(0, 1))
		set(t, tab, state)
		var want [4]int
		want[state]++
		want[alloc.Free] += 2
		counts(t, tab, want[0], want[1], want[2], want[3])
		freeOn(t, tab, want[alloc.Free])
	}
	takes(t, tab, us(0, 0), 1)
	takes(t, tab, us(0, 1), 1)
}

func TestP803SetOfNoStateOrUnit(t *testing.T) {
	tab := table(t, 2, 3)
	set(t, tab, alloc.Held, u(1, 1))
	no := func(state int, units ...api.Unit) {
		t.Helper()
		if e := tab.Set(state, units...); e != api.ErrArg {
			t.Errorf("Set(%d, %v): %v", state, units, e)
		}
	}
	for _, n := range append(far, 4) {
		no(n, u(0, 0))
		no(n)
		no(n, u(2, 0))
	}
	for _, n := range append(far, 3) {
		no(alloc.Taken, u(0, n))
		no(alloc.Taken, u(n, 0))
		no(alloc.Out, u(0, 0), u(1, n), u(0, 1))
		no(alloc.Free, u(1, 1), u(n, n))
	}
	no(alloc.Taken, u(0, 0), u(2, 0))
	counts(t, tab, 5, 0, 1, 0)
	states(t, tab, alloc.Held, u(1, 1))
}

func TestP803Release(t *testing.T) {
	tab := table(t, 3, 12)
	if units := tab.Release(); len(units) != 0 {
		t.Errorf("Release: %v; want none", units)
	}
	set(t, tab, alloc.Held, us(2, 3, 0, 11, 2, 0, 0, 2, 1, 1, 0, 10, 2, 11)...)
	set(t, tab, alloc.Taken, us(0, 0, 1, 0)...)
	set(t, tab, alloc.Out, us(0, 1, 2, 2)...)
	want := us(0, 2, 0, 10, 0, 11, 1, 1, 2, 0, 2, 3, 2, 11)
	if units := tab.Release(); !slices.Equal(units, want) {
		t.Errorf("Release: %v; want %v", units, want)
	}
	states(t, tab, alloc.Free, want...)
	states(t, tab, alloc.Taken, us(0, 0, 1, 0)...)
	states(t, tab, alloc.Out, us(0, 1, 2, 2)...)
	counts(t, tab, 32, 2, 0, 2)
	freeOn(t, tab, 10, 11, 11)
	if units := tab.Release(); len(units) != 0 {
		t.Errorf("Release again: %v; want none", units)
	}
	takes(t, tab, us(0, 2, 1, 1, 2, 0), 3)
}

func TestP803Sets(t *testing.T) {
	tab := table(t, 4, 5)
	set(t, tab, alloc.Out, us(1, 0, 1, 1, 1, 2, 1, 3)...)        // 1 free
	set(t, tab, alloc.Taken, us(2, 0, 2, 1)...)                  // 3
	set(t, tab, alloc.Held, us(3, 0, 3, 1, 3, 2, 3, 3, 3, 4)...) // 0
	for n, want := range []int{0, 9, 4, 1, 0, 0} {
		if got := tab.Sets(n); got != want {
			t.Errorf("Sets(%d): %d; want %d", n, got, want)
		}
	}
	for _, n := range append(far, api.MaxDrives, api.MaxDrives+1) {
		if got := tab.Sets(n); got != 0 {
			t.Errorf("Sets(%d): %d; want 0", n, got)
		}
	}
	all := table(t, api.MaxDrives, api.MaxZones)
	for _, n := range []int{1, 2, 3, 31, api.MaxDrives} {
		if got, want := all.Sets(n), api.MaxDrives*api.MaxZones/n; got != want {
			t.Errorf("Sets(%d): %d; want %d", n, got, want)
		}
	}
	counts(t, tab, 9, 2, 5, 4)
}

func TestP803Twin(t *testing.T) {
	tab := table(t, 2, 4)
	set(t, tab, alloc.Held, us(0, 0, 1, 3)...)
	set(t, tab, alloc.Out, us(0, 2)...)
	set(t, tab, alloc.Taken, us(1, 0)...)
	twin := tab.Twin()
	if !alike(tab, twin, 2, 4) {
		t.Fatal("a twin is not as its table")
	}
	takes(t, tab, us(0, 1, 1, 1), 2)
	set(t, tab, alloc.Free, us(0, 2)...)
	tab.Release()
	counts(t, twin, 4, 1, 2, 1)
	freeOn(t, twin, 2, 2)
	states(t, twin, alloc.Free, us(0, 1, 0, 3, 1, 1, 1, 2)...)
	states(t, twin, alloc.Held, us(0, 0, 1, 3)...)
	third := twin.Twin()
	takes(t, twin, us(0, 1, 1, 1), 2)
	takesOn(t, twin, 0, 3)
	set(t, twin, alloc.Out, us(1, 1)...)
	counts(t, tab, 5, 3, 0, 0)
	states(t, tab, alloc.Taken, us(0, 1, 1, 1, 1, 0)...)
	takesOn(t, tab, 0, 0)
	takes(t, third, us(0, 1, 1, 1), 2)
}
