package alloc_test

import (
	"math/rand/v2"
	"slices"
	"testing"

	"flint/alloc"
	"flint/api"
)

// A shadow tells the chapter a second time, plainly: the states of all units, by drive, then zone.
type shadow [][]int

func shade(drives, zones int) shadow {
	s := make(shadow, drives)
	for d := range s {
		s[d] = make([]int, zones)
	}
	return s
}

func (s shadow) twin() shadow {
	var t shadow
	for _, d := range s {
		t = append(t, slices.Clone(d))
	}
	return t
}

func (s shadow) count(state int) int {
	n := 0
	for _, d := range s {
		n += number(d, state)
	}
	return n
}

// number tells how often a list has v.
func number(list []int, v int) int {
	n := 0
	for _, w := range list {
		if w == v {
			n++
		}
	}
	return n
}

// best tells the drive with the most free units that is not among without; -1, if none has any.
func (s shadow) best(without []int) int {
	best, most := -1, 0
	for d, zones := range s {
		if n := number(zones, alloc.Free); n > most && !slices.Contains(without, d) {
			best, most = d, n
		}
	}
	return best
}

func (s shadow) take(n int, without ...int) ([]api.Unit, api.Errno) {
	if n < 1 || n > 32 {
		return nil, api.ErrArg
	}
	var drives []int
	for range n {
		d := s.best(append(slices.Clone(without), drives...))
		if d < 0 {
			return nil, api.ErrFull
		}
		drives = append(drives, d)
	}
	slices.Sort(drives)
	var units []api.Unit
	for _, d := range drives {
		unit, _ := s.takeOn(d)
		units = append(units, unit)
	}
	return units, api.OK
}

func (s shadow) takeOn(drive int) (api.Unit, api.Errno) {
	if drive < 0 || drive >= len(s) {
		return api.Unit{}, api.ErrArg
	}
	z := slices.Index(s[drive], alloc.Free)
	if z < 0 {
		return api.Unit{}, api.ErrFull
	}
	s[drive][z] = alloc.Taken
	return u(drive, z), api.OK
}

func (s shadow) set(state int, units ...api.Unit) api.Errno {
	if state < 0 || state > 3 {
		return api.ErrArg
	}
	next := s.twin()
	for _, unit := range units {
		if unit.Drive < 0 || unit.Drive >= len(s) || unit.Zone < 0 || unit.Zone >= len(s[0]) {
			return api.ErrArg
		}
		next[unit.Drive][unit.Zone] = state
	}
	copy(s, next)
	return api.OK
}

func (s shadow) release() []api.Unit {
	var units []api.Unit
	for d := range s {
		for z, state := range s[d] {
			if state == alloc.Held {
				s[d][z] = alloc.Free
				units = append(units, u(d, z))
			}
		}
	}
	return units
}

// sets does Take till it is full.
func (s shadow) sets(n int) int {
	t := s.twin()
	for sets := 0; ; sets++ {
		if _, e := t.take(n); e != api.OK {
			return sets
		}
	}
}

// is tells whether a table is as the shadow.
func (s shadow) is(tab *alloc.Table) bool {
	for d, zones := range s {
		for z, state := range zones {
			if tab.State(u(d, z)) != state {
				return false
			}
		}
		if tab.FreeOn(d) != number(zones, alloc.Free) {
			return false
		}
	}
	for state := -1; state < 6; state++ {
		if tab.Count(state) != s.count(state) {
			return false
		}
	}
	return true
}

// alike tells whether two tables of one shape are as one another, and go on alike.
func alike(a, b *alloc.Table, drives, zones int) bool {
	s := shade(drives, zones)
	for _, unit := range every(drives, zones) {
		s[unit.Drive][unit.Zone] = a.State(unit)
	}
	if !s.is(a) || !s.is(b) {
		return false
	}
	for n := range drives + 2 {
		if a.Sets(n) != b.Sets(n) {
			return false
		}
	}
	return true
}

// A pair is a table, and its shadow.
type pair struct {
	tab    *alloc.Table
	shadow shadow
	rnd    *rand.Rand
}

func newPair(t *testing.T, rnd *rand.Rand) *pair {
	drives, zones := 1+rnd.IntN(7), 1+rnd.IntN(9)
	if rnd.IntN(4) == 0 {
		drives = api.MaxDrives - rnd.IntN(8)
	}
	return &pair{table(t, drives, zones), shade(drives, zones), rnd}
}

// place tells a number that is below n, but for now and then.
func (p *pair) place(n int) int {
	if p.rnd.IntN(40) == 0 {
		return n
	}
	if p.rnd.IntN(40) == 0 {
		return -1
	}
	return p.rnd.IntN(n)
}

func (p *pair) units() []api.Unit {
	var units []api.Unit
	for range p.rnd.IntN(6) {
		units = append(units, u(p.place(len(p.shadow)), p.place(len(p.shadow[0]))))
	}
	return units
}

func (p *pair) drives() []int {
	var drives []int
	for range p.rnd.IntN(4) {
		drives = append(drives, p.place(len(p.shadow)))
	}
	return drives
}

// step does one call on both, and tells whether both answer the same.
func (p *pair) step() bool {
	switch p.rnd.IntN(8) {
	case 0, 1:
		n, without := p.place(len(p.shadow)+2), p.drives()
		a, e := p.tab.Take(n, without...)
		b, f := p.shadow.take(n, without...)
		return e == f && slices.Equal(a, b)
	case 2, 3:
		d := p.place(len(p.shadow))
		a, e := p.tab.TakeOn(d)
		b, f := p.shadow.takeOn(d)
		return e == f && a == b
	case 4, 5:
		state, units := p.place(4), p.units()
		return p.tab.Set(state, units...) == p.shadow.set(state, units...)
	case 6:
		if p.rnd.IntN(5) == 0 {
			return slices.Equal(p.tab.Release(), p.shadow.release())
		}
		return true
	}
	n := p.place(len(p.shadow) + 2)
	return p.tab.Sets(n) == p.shadow.sets(n)
}

func TestP804AnyCalls(t *testing.T) {
	for seed := range uint64(400) {
		p := newPair(t, rand.New(rand.NewPCG(seed, 804)))
		for i := range 150 {
			if !p.step() || !p.shadow.is(p.tab) {
				t.Fatalf("seed %d, step %d: the table is not as the chapter says: %v", seed, i, p.shadow)
			}
			if p.rnd.IntN(12) > 0 {
				continue
			}
			old, was := p.tab, p.shadow.twin()
			p.tab = old.Twin()
			for range 5 {
				if !p.step() || !p.shadow.is(p.tab) || !was.is(old) {
					t.Fatalf("seed %d, step %d: the twin is not as the chapter says: %v", seed, i, p.shadow)
				}
			}
		}
	}
}

// All numbers of free units on up to four drives, of up to five zones.
func TestP804SetsIsHowOftenTakeIsDone(t *testing.T) {
	const zones = 5
	for drives := 1; drives <= 4; drives++ {
		for free := range power(zones+1, drives) {
			tab := table(t, drives, zones)
			for d := range drives {
				for z := range zones - free/power(zones+1, d)%(zones+1) {
					set(t, tab, alloc.Taken+(d+z)%3, u(d, z))
				}
			}
			for n := 1; n <= drives+1; n++ {
				if got, want := tab.Sets(n), done(t, tab.Twin(), n); got != want {
					t.Fatalf("%d drives, free %d: Sets(%d): %d; Take is done %d times", drives, free, n, got, want)
				}
			}
		}
	}
}

func power(base, n int) int {
	p := 1
	for range n {
		p *= base
	}
	return p
}

// done tells how often Take is done, and asks that no unit is told twice.
func done(t *testing.T, tab *alloc.Table, n int) int {
	t.Helper()
	told := map[api.Unit]int{}
	for sets := 0; ; sets++ {
		units, e := tab.Take(n)
		if e != api.OK {
			return sets
		}
		for _, unit := range units {
			if told[unit]++; told[unit] > 1 {
				t.Fatalf("%v is told twice", unit)
			}
		}
	}
}

func TestP804SetsOfManyDrives(t *testing.T) {
	for seed := range uint64(60) {
		rnd := rand.New(rand.NewPCG(seed, 803))
		drives := 1 + rnd.IntN(api.MaxDrives)
		tab := table(t, drives, 40)
		for d := range drives {
			for z := range rnd.IntN(41) {
				set(t, tab, alloc.Taken+rnd.IntN(3), u(d, z))
			}
		}
		for n := 1; n <= api.MaxDrives; n++ {
			if got, want := tab.Sets(n), done(t, tab.Twin(), n); got != want {
				t.Fatalf("seed %d: Sets(%d): %d; Take is done %d times", seed, n, got, want)
			}
		}
	}
}

// A unit comes back by being set free, or released, and by nothing else.
func TestP804NoUnitIsToldTwice(t *testing.T) {
	for seed := range uint64(200) {
		rnd := rand.New(rand.NewPCG(seed, 805))
		tab := table(t, 5, 8)
		told := map[api.Unit]int{}
		tell := func(units ...api.Unit) {
			for _, unit := range units {
				if told[unit]++; told[unit] > 1 {
					t.Fatalf("seed %d: %v is told twice", seed, unit)
				}
			}
		}
		for range 80 {
			unit := u(rnd.IntN(5), rnd.IntN(8))
			switch rnd.IntN(6) {
			case 0:
				units, _ := tab.Take(1+rnd.IntN(5), rnd.IntN(6))
				tell(units...)
			case 1:
				if unit, e := tab.TakeOn(rnd.IntN(5)); e == api.OK {
					tell(unit)
				}
			case 2:
				set(t, tab, alloc.Free, unit)
				delete(told, unit)
			case 3, 4:
				set(t, tab, alloc.Taken+rnd.IntN(3), unit)
			case 5:
				for _, unit := range tab.Release() {
					delete(told, unit)
				}
			}
		}
	}
}

func TestP804GreatestTable(t *testing.T) {
	tab := table(t, api.MaxDrives, api.MaxZones)
	if n := done(t, tab, 3); n != api.MaxDrives*api.MaxZones/3 {
		t.Errorf("Take(3) is done %d times", n)
	}
	for d := range api.MaxDrives {
		for z := range api.MaxZones {
			set(t, tab, alloc.Held, u(d, z))
		}
	}
	takesNot(t, tab, api.ErrFull, 1)
	if units := tab.Release(); !slices.Equal(units, every(api.MaxDrives, api.MaxZones)) {
		t.Errorf("Release: %d units", len(units))
	}
	takesOn(t, tab, 31, 0)
}
