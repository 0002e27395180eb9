package nvram_test

import (
	"math"
	"strings"
	"testing"

	"flint/api"
	"flint/nvram"
	"flint/zone"
)

// The chapter's example 1.
func TestP403Example(t *testing.T) {
	p := zone.NewPower()
	d, e := nvram.New(p, 64)
	if e != api.OK {
		t.Fatal(e)
	}
	put(t, d, 0, "ab")
	persist(t, d)
	put(t, d, 1, "xy")
	d.Cut(1)
	if b, e := d.Read(0, 3); e != api.OK || string(b) != "ax\x00" {
		t.Errorf("%q, %v; want ax and 0", b, e)
	}
}

func TestP403Pending(t *testing.T) {
	p, d := fresh(t, 64)
	pends(t, d, 0)
	put(t, d, 0, "abc")
	pends(t, d, 3)
	put(t, d, 0, "abc") // the same bytes at the same place are written anew
	pends(t, d, 6)
	put(t, d, 2, "x", "", "yz")
	pends(t, d, 9)
	put(t, d, 2)
	put(t, d, 2, "")
	pends(t, d, 9)
	d.Write(63, []byte("no"))
	d.Read(0, 10)
	pends(t, d, 9)
	persist(t, d)
	pends(t, d, 0)
	put(t, d, 2, "Q")
	pends(t, d, 1)
	d.Cut(1)
	pends(t, d, 0)
	put(t, d, 2, strings.Repeat("r", 62))
	put(t, d, 0, strings.Repeat("s", 64))
	pends(t, d, 126)
	down(p, 7)
	pends(t, d, 0)
	p.On()
	pends(t, d, 0)
}

func TestP403Cut(t *testing.T) {
	for _, c := range []struct {
		what  string
		picks []int
		want  string
	}{
		{"no picks", nil, "abcdef"},
		{"0", []int{0}, "abcdef"},
		{"1", []int{1}, "aXcdef"},
		{"the first write", []int{3}, "aXYZef"},
		{"into the second", []int{4}, "aXY1ef"},
		{"all but one", []int{5}, "aXY12f"},
		{"all", []int{6}, "aXY123"},
		{"one more than all", []int{7}, "abcdef"},
		{"modulo", []int{7*5 + 4}, "aXY1ef"},
		{"modulo, to all", []int{13}, "aXY123"},
		{"great", []int{math.MaxInt/7*7 - 5}, "aXYdef"},
		{"below 0", []int{-1}, "abcdef"},
		{"below 0, no modulo", []int{-3}, "abcdef"},
		{"least", []int{math.MinInt}, "abcdef"},
		{"only the first pick counts", []int{1, 6, 6}, "aXcdef"},
		{"a first one below 0", []int{-1, 6}, "abcdef"},
	} {
		p, d := fresh(t, 64)
		put(t, d, 0, "abcdef")
		persist(t, d)
		put(t, d, 1, "XY", "Z")
		put(t, d, 3, "123")
		was := p.Writes()
		d.Cut(c.picks...)
		holds(t, d, c.want)
		pends(t, d, 0)
		if p.Off() || p.Writes() != was {
			t.Errorf("%s: off %v, %d writes: Cut is none", c.what, p.Off(), p.Writes()-was)
		}
		if t.Failed() {
			t.Fatalf("%s", c.what)
		}
	}
}

// Bytes that are not kept are what kept ones, written ahead, made them.
func TestP403CutOfBytesWrittenOften(t *testing.T) {
	for kept, want := range []string{"ab..", "1b..", "12..", "32..", "324.", "3245", "3645", "3675"} {
		_, d := fresh(t, 64)
		put(t, d, 0, "ab")
		persist(t, d)
		put(t, d, 0, "12")
		put(t, d, 0, "3")
		put(t, d, 2, "45")
		put(t, d, 1, "67")
		d.Cut(kept)
		holds(t, d, want)
	}
}

// In the order in which they were written, not in that of their places; parts of one write are in theirs.
func TestP403CutInTheOrderOfWrites(t *testing.T) {
	for kept, want := range []string{"......", ".....a", "...b.a", "...bca", "d..bca", "de.bca", "defbca"} {
		_, d := fresh(t, 64)
		put(t, d, 5, "a")
		put(t, d, 3, "b", "c")
		put(t, d, 0, "de", "f")
		d.Cut(kept)
		holds(t, d, want)
	}
}

func TestP403WhatACutKeepsOutlastsTheNext(t *testing.T) {
	p, d := fresh(t, 64)
	put(t, d, 0, "abcd")
	d.Cut(3)
	d.Cut(0)
	holds(t, d, "abc")
	put(t, d, 1, "XYZ")
	down(p, 2)
	p.On()
	holds(t, d, "aXY")
	d.Cut(1)
	down(p)
	p.On()
	holds(t, d, "aXY")
}

func TestP403CutWithoutPower(t *testing.T) {
	p, d := fresh(t, 64)
	put(t, d, 0, "abcd")
	down(p, 3)
	d.Cut(0)
	d.Cut(1)
	d.Cut()
	if !p.Off() {
		t.Error("Cut puts the power on")
	}
	p.On()
	holds(t, d, "abc")
}

// A device, other ones, and drives are cut by the same picks.
func TestP403DevicesAreCutBySamePicks(t *testing.T) {
	p := zone.NewPower()
	a, _ := nvram.New(p, 64)
	drive, _ := zone.New(p, 1, 4, 32)
	b, _ := nvram.New(p, 100)
	put(t, a, 0, "abcd")
	put(t, b, 9, "x")
	for range 3 {
		drive.Append(0, make([]byte, 32))
	}
	p.Arm(1, 2)
	if e := a.Persist(); e != api.ErrDown {
		t.Errorf("%v", e)
	}
	pends(t, a, 0)
	pends(t, b, 0)
	p.On()
	holds(t, a, "ab")
	holds(t, b, "") // 2 modulo 2
	if n, e := drive.Pointer(0); n != 2 || e != api.OK {
		t.Errorf("the drive has %d pages, %v; want 2", n, e)
	}
}

func TestP404AFrontIsKept(t *testing.T) {
	long := strings.Repeat("0123456789", 7)[:64]
	for kept := range 65 {
		_, d := fresh(t, 64)
		put(t, d, 0, strings.Repeat("-", 64))
		persist(t, d)
		for at := 0; at < 64; at += 8 {
			put(t, d, at, long[at:at+3], long[at+3:at+8])
		}
		d.Cut(kept)
		holds(t, d, long[:kept]+strings.Repeat("-", 64-kept))
	}
}

func TestP404PersistedBytesOutlastAnyCuts(t *testing.T) {
	p, d := fresh(t, 1<<12)
	text := strings.Repeat("what is persisted stays ", 100)
	put(t, d, 0, text)
	persist(t, d)
	for i := range 200 {
		put(t, d, i*7, "over", "written")
		put(t, d, i*5, "again")
		p.Arm(1, -i)
		if e := d.Write(0, []byte("x")); e != api.ErrDown {
			t.Fatalf("%v", e)
		}
		p.On()
		holds(t, d, text)
	}
}
