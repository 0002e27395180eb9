package zone_test

import (
	"bytes"
	"math"
	"slices"
	"testing"

	"flint/api"
	"flint/zone"
)

// pointers tells how many pages each zone has.
func pointers(d *zone.Drive) []int {
	zones, _, _ := d.Shape()
	var l []int
	for z := range zones {
		n, _ := d.Pointer(z)
		l = append(l, n)
	}
	return l
}

func TestP305Cut(t *testing.T) {
	for _, c := range []struct {
		what        string
		firm, loose []int // pages of each zone that were flushed, that were not
		picks, want []int
	}{
		{"no picks", []int{1, 0}, []int{2, 3}, nil, []int{1, 0}},
		{"one each", []int{1, 0}, []int{2, 3}, []int{1, 2}, []int{2, 2}},
		{"all", []int{1, 0}, []int{2, 3}, []int{2, 3}, []int{3, 3}},
		{"one more than all", []int{1, 0}, []int{2, 3}, []int{3, 4}, []int{1, 0}},
		{"modulo", []int{0, 0}, []int{2, 3}, []int{5, 103}, []int{2, 3}},
		{"greatest", []int{2}, []int{1}, []int{math.MaxInt}, []int{3}},
		{"below 0", []int{1, 1, 1}, []int{2, 2, 2}, []int{-1, 2, math.MinInt}, []int{1, 3, 1}},
		{"below 0, no modulo", []int{0, 0}, []int{3, 3}, []int{-2, -5}, []int{0, 0}},
		{"fewer picks than zones", []int{1, 1, 1}, []int{2, 2, 2}, []int{1}, []int{2, 1, 1}},
		{"more picks than zones", []int{1}, []int{2}, []int{1, 2, 2}, []int{2}},
		{"zones without such pages take none", []int{1, 0, 2, 0}, []int{0, 2, 0, 3}, []int{1, 2}, []int{1, 1, 2, 2}},
		{"nothing to cut", []int{2, 1}, []int{0, 0}, []int{0, 0}, []int{2, 1}},
		{"no pages", []int{0, 0}, []int{0, 0}, []int{1, 1}, []int{0, 0}},
	} {
		p, d := fresh(t, len(c.firm), 6, 32)
		for z, n := range c.firm {
			fill(t, d, z, n)
		}
		d.Flush()
		for z, n := range c.loose {
			fill(t, d, z, n)
		}
		was := p.Writes()
		d.Cut(c.picks...)
		if got := pointers(d); !slices.Equal(got, c.want) {
			t.Errorf("%s: %v; want %v", c.what, got, c.want)
		}
		for z, n := range c.want {
			holds(t, d, z, n)
		}
		if p.Off() || p.Writes() != was {
			t.Errorf("%s: off %v, %d writes", c.what, p.Off(), p.Writes()-was)
		}
	}
}

func TestP305WhatIsKeptOutlastsCuts(t *testing.T) {
	_, d := fresh(t, 2, 6, 32)
	fill(t, d, 0, 4)
	fill(t, d, 1, 2)
	d.Cut(3, 0)
	d.Cut()
	holds(t, d, 0, 3)
	fill(t, d, 0, 2)
	d.Cut(1)
	d.Cut(0, 0)
	holds(t, d, 0, 4)
	holds(t, d, 1, 0)
}

// What a cut took is not told by what is appended in its place.
func TestP305PagesBehindACut(t *testing.T) {
	_, d := fresh(t, 1, 6, 32)
	fill(t, d, 0, 5)
	d.Cut(2)
	if e := d.Append(0, page(32, 77)); e != api.OK {
		t.Fatalf("%v", e)
	}
	for i, want := range []int{0, 1, 77} {
		if b, _ := d.Read(0, i); !bytes.Equal(b, page(32, want)) {
			t.Errorf("page %d: % X; want that of %d", i, b, want)
		}
	}
	if n, _ := d.Pointer(0); n != 3 {
		t.Errorf("%d pages; want 3", n)
	}
}

func TestP305Lose(t *testing.T) {
	p, d := fresh(t, 2, 3, 32)
	if d.Lost() {
		t.Error("a new drive is lost")
	}
	fill(t, d, 0, 2)
	d.Flush()
	fill(t, d, 1, 1)
	was := p.Writes()
	d.Lose()
	d.Lose()
	if !d.Lost() || d.Rot(0, 0, 0) || d.Rot(1, 0, 0) {
		t.Error("it is not lost, or has pages")
	}
	d.Cut(1, 1)
	if _, e := d.Pointer(0); e != api.ErrLost {
		t.Errorf("Pointer: %v; want lost", e)
	}
	if z, n, s := d.Shape(); z != 2 || n != 3 || s != 32 {
		t.Errorf("Shape: %d, %d, %d", z, n, s)
	}
	if p.Writes() != was {
		t.Error("Lose is a write")
	}
}

func TestP305Replace(t *testing.T) {
	_, d := fresh(t, 2, 3, 32)
	fill(t, d, 0, 2)
	d.Flush()
	fill(t, d, 0, 1)
	d.Lose()
	d.Replace()
	if d.Lost() {
		t.Error("it is lost")
	}
	holds(t, d, 0, 0)
	fill(t, d, 0, 3)
	d.Cut(1)
	holds(t, d, 0, 1)
}

// A drive that is not lost is replaced by a blank one, too.
func TestP305ReplaceWithoutLoss(t *testing.T) {
	_, d := fresh(t, 2, 3, 32)
	fill(t, d, 0, 2)
	d.Flush()
	d.Replace()
	holds(t, d, 0, 0)
	fill(t, d, 0, 2)
	d.Cut()
	holds(t, d, 0, 0)
}

func TestP305Rot(t *testing.T) {
	for _, c := range []struct{ bit, at int }{
		{0, 0}, {1, 1}, {7, 7}, {8, 8}, {255, 255}, {256, 0}, {257, 1}, {256*1000 + 19, 19},
		{-1, 0}, {math.MinInt, 0}, {math.MaxInt, math.MaxInt % 256},
	} {
		_, d := fresh(t, 2, 3, 32)
		fill(t, d, 1, 3)
		if !d.Rot(1, 1, c.bit) {
			t.Fatalf("bit %d: false", c.bit)
		}
		want := page(32, 1)
		want[c.at/8] ^= 1 << (c.at % 8)
		if b, e := d.Read(1, 1); !bytes.Equal(b, want) || e != api.OK {
			t.Errorf("bit %d: % X, %v; want % X", c.bit, b, e, want)
		}
		for _, i := range []int{0, 2} {
			if b, _ := d.Read(1, i); !bytes.Equal(b, page(32, i)) {
				t.Errorf("bit %d: page %d is another one", c.bit, i)
			}
		}
		d.Rot(1, 1, c.bit)
		holds(t, d, 1, 3)
	}
}

func TestP305RotOfNoPage(t *testing.T) {
	p, d := fresh(t, 2, 3, 32)
	fill(t, d, 1, 2)
	for _, c := range [][2]int{{0, 0}, {1, 2}, {1, 3}, {1, -1}, {2, 0}, {-1, 0}, {math.MinInt, math.MinInt}, {math.MaxInt, math.MaxInt}, {1, math.MaxInt}} {
		if d.Rot(c[0], c[1], 3) {
			t.Errorf("Rot(%d, %d): true", c[0], c[1])
		}
	}
	holds(t, d, 1, 2)
	if p.Writes() != 2 {
		t.Error("Rot is a write")
	}
}

// Rot changes what a drive has, not what was handed in or answered.
func TestP305RotIsOfTheDriveAlone(t *testing.T) {
	_, d := fresh(t, 1, 3, 32)
	in := page(32, 1)
	d.Append(0, in)
	d.Append(0, in)
	out, _ := d.Read(0, 0)
	d.Rot(0, 0, 9)
	if !bytes.Equal(in, page(32, 1)) || !bytes.Equal(out, page(32, 1)) {
		t.Error("bytes outside the drive rot")
	}
	if b, _ := d.Read(0, 1); !bytes.Equal(b, page(32, 1)) {
		t.Error("another page rots")
	}
}

func TestP305RotOutlastsFlushAndCut(t *testing.T) {
	_, d := fresh(t, 1, 3, 32)
	fill(t, d, 0, 2)
	d.Rot(0, 0, 0)
	d.Flush()
	d.Rot(0, 1, 0)
	d.Cut()
	for i := range 2 {
		want := page(32, i)
		want[0] ^= 1
		if b, e := d.Read(0, i); !bytes.Equal(b, want) || e != api.OK {
			t.Errorf("page %d: % X, %v", i, b, e)
		}
	}
}

func TestP305FaultsWithoutPower(t *testing.T) {
	p, d := fresh(t, 2, 3, 32)
	fill(t, d, 0, 3)
	d.Flush()
	p.Arm(1)
	p.Write()
	if !d.Rot(0, 1, 0) || d.Rot(0, 3, 0) || !p.Off() {
		t.Error("Rot without power")
	}
	p.On()
	want := page(32, 1)
	want[0] ^= 1
	if b, _ := d.Read(0, 1); !bytes.Equal(b, want) {
		t.Errorf("% X; want % X", b, want)
	}
	p.Arm(1)
	p.Write()
	d.Lose()
	if !d.Lost() || d.Rot(0, 1, 0) {
		t.Error("Lose without power")
	}
	d.Replace()
	if d.Lost() || !p.Off() {
		t.Error("Replace without power")
	}
	if z, n, s := d.Shape(); z != 2 || n != 3 || s != 32 {
		t.Errorf("Shape without power: %d, %d, %d", z, n, s)
	}
	p.On()
	holds(t, d, 0, 0)
}

func TestP305LostDrivesAreCutWithTheOthers(t *testing.T) {
	p, a := fresh(t, 1, 3, 32)
	b, _ := zone.New(p, 1, 3, 32)
	fill(t, a, 0, 2)
	fill(t, b, 0, 2)
	a.Lose()
	p.Arm(1, 1)
	p.Write()
	a.Replace()
	p.On()
	holds(t, a, 0, 0)
	holds(t, b, 0, 1)
}
