package zone_test

import (
	"math"
	"slices"
	"testing"

	"flint/api"
	"flint/zone"
)

// A device is one that writes down how it is cut.
type device struct {
	name string
	book *[]string // names of the devices that were cut, in order
	cuts [][]int
	then func() // what it does when it is cut
	lost bool
}

func (d *device) Cut(picks ...int) {
	d.cuts = append(d.cuts, slices.Clone(picks))
	if d.book != nil {
		*d.book = append(*d.book, d.name)
	}
	scribble(picks)
	if d.then != nil {
		d.then()
	}
}

// Lost tells true of devices that are to be cut all the same.
func (d *device) Lost() bool { return d.lost }

// scribble changes all of l, its spare room too.
func scribble(l []int) {
	l = l[:cap(l)]
	for i := range l {
		l[i] = -77
	}
}

// writes asks for n writes, and tells how many were true ahead of the first that was not.
func writes(p *zone.Power, n int) int {
	for i := range n {
		if !p.Write() {
			return i
		}
	}
	return n
}

func TestP301OnInTheBeginning(t *testing.T) {
	p := zone.NewPower()
	if p.Off() || p.Writes() != 0 {
		t.Errorf("a new one: off %v, %d writes", p.Off(), p.Writes())
	}
	p.On()
	if p.Off() || !p.Write() || p.Writes() != 1 {
		t.Errorf("put on again: off %v, %d writes", p.Off(), p.Writes())
	}
	if n := writes(p, 1000); n != 1000 || p.Writes() != 1001 {
		t.Errorf("nothing armed: %d of 1000 writes, %d in all", n, p.Writes())
	}
}

func TestP301ArmedWrite(t *testing.T) {
	for _, c := range []struct{ n, before int }{
		{math.MinInt, 0}, {-1, 0}, {0, 0}, {1, 0}, {2, 1}, {3, 2}, {100, 99},
	} {
		p, d := zone.NewPower(), &device{}
		p.Attach(d)
		writes(p, 5)
		p.Arm(c.n, 4, -1, 9)
		if n := writes(p, 200); n != c.before {
			t.Errorf("Arm(%d): %d writes ahead of it; want %d", c.n, n, c.before)
		}
		if !p.Off() || p.Writes() != 5+c.before {
			t.Errorf("Arm(%d): off %v, %d writes; want %d", c.n, p.Off(), p.Writes(), 5+c.before)
		}
		if len(d.cuts) != 1 || !slices.Equal(d.cuts[0], []int{4, -1, 9}) {
			t.Errorf("Arm(%d): cut by %v", c.n, d.cuts)
		}
	}
}

func TestP301ArmedFarOff(t *testing.T) {
	p := zone.NewPower()
	p.Arm(math.MaxInt)
	if n := writes(p, 1000); n != 1000 || p.Off() {
		t.Errorf("%d writes, off %v", n, p.Off())
	}
}

func TestP301NothingIsArmedBehindTheCut(t *testing.T) {
	p, d := zone.NewPower(), &device{}
	p.Attach(d)
	p.Arm(1, 3)
	p.Write()
	p.On()
	if p.Off() {
		t.Error("it is off behind On")
	}
	if n := writes(p, 500); n != 500 || len(d.cuts) != 1 {
		t.Errorf("%d writes, %d cuts; want 500, 1", n, len(d.cuts))
	}
}

func TestP301WithoutPowerNothingIsWritten(t *testing.T) {
	p, d := zone.NewPower(), &device{}
	p.Attach(d)
	p.Write()
	p.Arm(1)
	p.Write()
	for range 5 {
		if p.Write() || !p.Off() || p.Writes() != 1 || len(d.cuts) != 1 {
			t.Fatalf("off %v, %d writes, %d cuts", p.Off(), p.Writes(), len(d.cuts))
		}
	}
}

func TestP301ArmedWithoutPower(t *testing.T) {
	p, d := zone.NewPower(), &device{}
	p.Attach(d)
	p.Arm(1)
	p.Write()
	p.Arm(3, 8)
	writes(p, 1) // it is refused, and brings the third write no nearer
	p.Write()
	p.Write()
	if len(d.cuts) != 1 {
		t.Fatalf("%d cuts without power", len(d.cuts)-1)
	}
	p.On()
	if n := writes(p, 10); n != 2 || !p.Off() || len(d.cuts) != 2 || !slices.Equal(d.cuts[1], []int{8}) {
		t.Errorf("behind On: %d writes, off %v, cut by %v; want 2 writes, cut by 8", n, p.Off(), d.cuts)
	}
}

func TestP301OnKeepsWhatIsArmed(t *testing.T) {
	p := zone.NewPower()
	p.Arm(2)
	p.Write()
	p.On()
	if p.Write() || !p.Off() {
		t.Error("what was armed is forgotten by On")
	}
}

func TestP301ArmedAgain(t *testing.T) {
	for _, c := range []struct{ first, ahead, second, want int }{
		{1, 0, 5, 4}, {5, 0, 1, 0}, {3, 2, 3, 2}, {2, 1, 0, 0},
	} {
		p, d := zone.NewPower(), &device{}
		p.Attach(d)
		p.Arm(c.first, 1, 1)
		writes(p, c.ahead)
		p.Arm(c.second, 2)
		if n := writes(p, 50); n != c.want || len(d.cuts) != 1 || !slices.Equal(d.cuts[0], []int{2}) {
			t.Errorf("%v: %d writes, cut by %v", c, n, d.cuts)
		}
		p.On()
		if n := writes(p, 50); n != 50 {
			t.Errorf("%v: what was armed first is still armed", c)
		}
	}
}

func TestP301ArmedAgainWithoutPicks(t *testing.T) {
	p, d := zone.NewPower(), &device{}
	p.Attach(d)
	p.Arm(4, 1, 2, 3)
	p.Arm(1)
	p.Write()
	if len(d.cuts) != 1 || len(d.cuts[0]) != 0 {
		t.Errorf("cut by %v; want no picks", d.cuts)
	}
}

func TestP301DevicesInOrder(t *testing.T) {
	var book []string
	a, b := &device{name: "a", book: &book}, &device{name: "b", book: &book}
	p := zone.NewPower()
	for _, d := range []*device{b, a, b, a, a} {
		p.Attach(d)
	}
	p.Arm(1, 7, 5)
	p.Write()
	if want := []string{"b", "a", "b", "a", "a"}; !slices.Equal(book, want) {
		t.Errorf("cut: %v; want %v", book, want)
	}
	for _, l := range slices.Concat(a.cuts, b.cuts) {
		if !slices.Equal(l, []int{7, 5}) {
			t.Errorf("cut by %v; want 7, 5: all by the same picks", l)
		}
	}
}

func TestP301DevicesWithOtherMethodsAreCut(t *testing.T) {
	p, d := zone.NewPower(), &device{lost: true}
	p.Attach(d)
	p.Arm(1, 6)
	p.Write()
	if len(d.cuts) != 1 || !slices.Equal(d.cuts[0], []int{6}) {
		t.Errorf("cut by %v; want once by 6", d.cuts)
	}
}

// A wrapped drive is one whose cuts are counted.
type wrapped struct {
	*zone.Drive
	cuts int
}

func (w *wrapped) Cut(picks ...int) {
	w.cuts++
	w.Drive.Cut(picks...)
}

func TestP301DrivesWithinOtherDevicesAreCut(t *testing.T) {
	p := zone.NewPower()
	d, _ := zone.New(p, 1, 4, 32)
	w := &wrapped{Drive: d}
	p.Attach(w)
	d.Lose()
	p.Arm(1)
	p.Write()
	if w.cuts != 1 {
		t.Errorf("%d cuts; want 1", w.cuts)
	}
}

func TestP301DevicesAskWhileTheyAreCut(t *testing.T) {
	p, late := zone.NewPower(), &device{}
	early := &device{}
	early.then = func() {
		if !p.Off() || p.Write() {
			t.Error("it is on while devices are cut")
		}
		p.Attach(late)
	}
	p.Attach(early)
	p.Arm(1)
	p.Write()
	if len(early.cuts) != 1 || len(late.cuts) != 0 || p.Writes() != 0 {
		t.Errorf("%d cuts, %d of one that came later, %d writes", len(early.cuts), len(late.cuts), p.Writes())
	}
	p.On()
	early.then = nil
	p.Arm(1)
	p.Write()
	if len(early.cuts) != 2 || len(late.cuts) != 1 {
		t.Errorf("the next time: %d cuts, %d of the later one", len(early.cuts), len(late.cuts))
	}
}

func TestP301DevicesArmWhileTheyAreCut(t *testing.T) {
	p, d := zone.NewPower(), &device{}
	d.then = func() { p.Arm(2, 5) }
	p.Attach(d)
	p.Arm(1)
	p.Write()
	d.then = nil
	p.On()
	if n := writes(p, 9); n != 1 || len(d.cuts) != 2 || !slices.Equal(d.cuts[1], []int{5}) {
		t.Errorf("%d writes, cut by %v: what was armed within a cut is armed", n, d.cuts)
	}
}

func TestP301DrivesAreCutBySamePicks(t *testing.T) {
	p := zone.NewPower()
	a, _ := zone.New(p, 1, 8, 32)
	b, _ := zone.New(p, 1, 8, 32)
	for i := range 5 {
		a.Append(0, page(32, i))
		b.Append(0, page(32, i))
	}
	p.Arm(1, 2, 4)
	if e := a.Append(0, page(32, 5)); e != api.ErrDown {
		t.Errorf("the armed write: %v", e)
	}
	p.On()
	for i, d := range []*zone.Drive{a, b} {
		if n, e := d.Pointer(0); n != 2 || e != api.OK {
			t.Errorf("drive %d: %d pages, %v; want 2 by the first pick", i, n, e)
		}
	}
}

func TestP2PicksOfArmAreNotKept(t *testing.T) {
	p, d := zone.NewPower(), &device{}
	p.Attach(d)
	p.Attach(d)
	picks := append(make([]int, 0, 10), 3, 1, 4)
	was := slices.Clone(picks[:10])
	p.Arm(1, picks...)
	kept := slices.Clone(picks[:10])
	scribble(picks)
	p.Write()
	if !slices.Equal(kept, was) {
		t.Errorf("Arm changes its picks: %v", kept)
	}
	for _, l := range d.cuts {
		if !slices.Equal(l, []int{3, 1, 4}) {
			t.Errorf("cut by %v; want 3, 1, 4", l)
		}
	}
	for _, x := range picks[:10] {
		if x != -77 {
			t.Errorf("%v: changed behind Arm", picks[:10])
		}
	}
}
