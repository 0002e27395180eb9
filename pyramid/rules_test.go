package pyramid_test

import (
	"bytes"
	"math"
	"slices"
	"strings"
	"testing"

	"flint/api"
	"flint/pyramid"
)

func TestP1AnyKeysAndValues(t *testing.T) {
	keys := []string{"", "\x00", "a", "a\x00", strings.Repeat("k", 1024), strings.Repeat("k", 1025), strings.Repeat("k", 1<<20), "\x7f", "\x80", "\xff", "é", "\xc3", last}
	for _, fan := range []int{2, 64} {
		p := made(t, newKeep(), fan)
		for i, key := range keys {
			want := api.OK
			if len(key) > 1024 {
				want = api.ErrLong
			}
			if _, e := p.Put(key, []byte{byte(i)}); e != want {
				t.Fatalf("Put of a key of %d bytes: %v", len(key), e)
			}
			p.Flush()
		}
		for range 2 {
			for i, key := range keys {
				v, ok, e := p.Get(key)
				if ok != (len(key) <= 1024) || e != api.OK || ok && v[0] != byte(i) {
					t.Fatalf("Get of a key of %d bytes: %v, %v, %v", len(key), v, ok, e)
				}
				for _, hi := range keys {
					for _, most := range []int{math.MinInt, 0, 1, 5, math.MaxInt} {
						l, e := p.Scan(key, hi, most)
						if e != api.OK || len(l) > max(most, 0) || len(l) > 0 && key >= hi {
							t.Fatalf("Scan(%q, %q, %d): %v, %v", key, hi, most, l, e)
						}
					}
				}
			}
			p.Merge()
		}
		for _, lo := range keys {
			for _, hi := range keys {
				if _, e := p.Elide(lo, hi); (e == api.OK) != (lo < hi) {
					t.Fatalf("Elide(%q, %q): %v", lo, hi, e)
				}
			}
		}
	}
}

// Whatever a State says of its patches, calls end, and answer without more beside an error.
func TestP1AnyStates(t *testing.T) {
	k := newKeep()
	ats := []api.Addr{{}, {Segment: math.MaxUint64, At: math.MinInt, N: -1}, k.table(t), k.table(t, f("a", 50, "x"), f("b", 1, "y")), k.lay([]byte("noise"))}
	r := source(13, 3)
	for range 2000 {
		s := pyramid.State{Seq: 50}
		for range r.IntN(6) {
			lo := uint64(r.IntN(52))
			s.Patches = append(s.Patches, pyramid.Patch{At: ats[r.IntN(len(ats))], Level: r.IntN(63) - 1, Lo: lo, Hi: lo + uint64(r.IntN(10)) - 1})
		}
		p, e := pyramid.Load(k, 2+r.IntN(3), s)
		if e != api.OK {
			continue
		}
		for range 4 {
			if v, ok, e := p.Get("a"); e != api.OK && (ok || len(v) != 0) {
				t.Fatalf("Get: %q, %v, %v", v, ok, e)
			}
			if l, e := p.Scan("", "z", 9); e != api.OK && len(l) != 0 {
				t.Fatalf("Scan: %v, %v", l, e)
			}
			if did, e := p.Merge(); e != api.OK && did {
				t.Fatalf("Merge: %v, %v", did, e)
			}
			if _, e := pyramid.Load(k, 2, p.State()); e != api.OK {
				t.Fatalf("%v cannot be loaded: %v", p.State(), e)
			}
			p.Put("c", nil)
			p.Flush()
		}
	}
}

func TestP1APyramidThatNewDidNotMake(t *testing.T) {
	p := &pyramid.Pyramid{}
	has(t, p, "", "-")
	scans(t, p, "", last, 9)
	merge(t, p, false)
	flush(t, p)
	put(t, p, "a", "1", "b", "2")
	elided(t, p, "b", "c")
	has(t, p, "a", "1", "b", "-")
	merge(t, p, false)
	if e := p.Flush(); e != api.ErrArg || p.Pending() != 2 {
		t.Errorf("Flush: %v; %d are pending", e, p.Pending())
	}
	if p.Move(api.Addr{}, api.Addr{}) || len(p.Where()) != 0 || p.State().Seq != 3 {
		t.Errorf("%v", p.State())
	}
}

func TestP2ValuesAreNotChangedOrKept(t *testing.T) {
	p := made(t, newKeep(), 2)
	in := append(make([]byte, 0, 20), "value"...)
	was := bytes.Clone(in[:20])
	p.Put("a", in)
	if !bytes.Equal(in[:20], was) {
		t.Error("Put changes what it is handed")
	}
	scribble(in)
	has(t, p, "a", "value")
	flush(t, p)
	has(t, p, "a", "value")
}

func TestP2StatesAreNotChangedOrKept(t *testing.T) {
	k := newKeep()
	one, two := k.table(t, f("a", 5, "5")), k.table(t, f("b", 2, "2"))
	s := pyramid.State{Seq: 9,
		Patches:  append(make([]pyramid.Patch, 0, 5), pyramid.Patch{two, 1, 2, 2}, pyramid.Patch{one, 0, 5, 5}),
		Elisions: append(make([]api.Elision, 0, 5), el("x", "z", 4), el("p", "y", 3)),
	}
	patches, elisions := slices.Clone(s.Patches[:5]), slices.Clone(s.Elisions[:5])
	p := loaded(t, k, 2, s)
	if elided(t, p, "c", "d"); !slices.Equal(s.Patches[:5], patches) || !slices.Equal(s.Elisions[:5], elisions) {
		t.Error("Load changes what it is handed")
	}
	want := p.State()
	spoil(s)
	if !equal(p.State(), want) {
		t.Errorf("Load keeps what it was handed: %v", p.State())
	}
	has(t, p, "a", "5", "b", "2")
	b := append(make([]byte, 0, 200), pyramid.Encode(want)...)
	bytes200 := bytes.Clone(b[:200])
	got, _ := pyramid.Decode(b)
	if !bytes.Equal(b[:200], bytes200) {
		t.Error("Decode changes what it is handed")
	}
	if scribble(b); !equal(got, want) {
		t.Error("Decode keeps what it was handed")
	}
	s = p.State()
	was := pyramid.State{Seq: s.Seq, Patches: slices.Clone(s.Patches), Elisions: slices.Clone(s.Elisions)}
	scribble(pyramid.Encode(s))
	if !equal(s, was) {
		t.Error("Encode changes what it is handed")
	}
}

// spoil changes all of a State's lists, their spare room too.
func spoil(s pyramid.State) {
	for i := range s.Patches[:cap(s.Patches)] {
		s.Patches[:cap(s.Patches)][i] = pyramid.Patch{Level: 7}
	}
	for i := range s.Elisions[:cap(s.Elisions)] {
		s.Elisions[:cap(s.Elisions)][i] = el("spoilt", "spoilu", 1)
	}
}

func TestP2WhatIsToldMayBeChanged(t *testing.T) {
	k := newKeep()
	p := made(t, k, 3)
	put(t, p, "a", "1", "b", "2")
	flush(t, p)
	put(t, p, "b", "3", "c", "4")
	elided(t, p, "x", "y")
	want, at := p.State(), p.Where()
	for range 2 {
		for _, key := range []string{"a", "b", "c"} {
			v, _, _ := p.Get(key)
			scribble(v)
		}
		l, _ := p.Scan("", last, 2)
		for i := range l {
			scribble(l[i].Value)
		}
		for i := range l[:cap(l)] {
			l[:cap(l)][i] = f("spoilt", 77, "spoilt")
		}
		spoil(p.State())
		where := p.Where()
		for i := range where[:cap(where)] {
			where[:cap(where)][i] = api.Addr{Segment: 99}
		}
		if !equal(p.State(), want) || !slices.Equal(p.Where(), at) {
			t.Fatalf("%v, %v", p.State(), p.Where())
		}
		has(t, p, "a", "1", "b", "3", "c", "4")
		scans(t, p, "", last, 9, f("a", 1, "1"), f("b", 3, "3"), f("c", 4, "4"))
	}
	flush(t, p)
	has(t, p, "a", "1", "b", "3", "c", "4")
}

// What was told stays, whatever is done then.
func TestP2WhatWasToldStays(t *testing.T) {
	k := newKeep()
	p := made(t, k, 2)
	flushed(t, p, "a", "1", "b", "2")
	elided(t, p, "x", "y")
	s, at := p.State(), p.Where()
	was := pyramid.State{Seq: s.Seq, Patches: slices.Clone(s.Patches), Elisions: slices.Clone(s.Elisions)}
	p.Move(at[0], api.Addr{Segment: 50})
	p.Move(api.Addr{Segment: 50}, at[0])
	p.Move(at[1], k.lay(k.blobs[at[1]]))
	elided(t, p, "a", "b")
	merge(t, p, true)
	if !equal(s, was) || at[1] != was.Patches[1].At {
		t.Errorf("%v; want %v", s, was)
	}
}

// Two facts of a Scan share no memory, nor does the Keep's own with it.
func TestP2ScansShareNothing(t *testing.T) {
	for _, kept := range []bool{false, true} {
		k := newKeep()
		p := made(t, k, 2)
		value := []byte("shared")
		p.Put("a", value)
		p.Put("b", value)
		if kept {
			flush(t, p)
		}
		l, e := p.Scan("", last, 9)
		if e != api.OK || len(l) != 2 {
			t.Fatalf("%v, %v", l, e)
		}
		if scribble(l[0].Value); string(l[1].Value) != "shared" {
			t.Error("two Values share memory")
		}
		has(t, p, "a", "shared", "b", "shared")
	}
}

func TestP2NilIsAsEmpty(t *testing.T) {
	p, q := made(t, newKeep(), 2), loaded(t, newKeep(), 2, pyramid.State{Patches: []pyramid.Patch{}, Elisions: []api.Elision{}})
	p.Put("a", nil)
	q.Put("a", []byte{})
	for range 2 {
		for _, x := range []*pyramid.Pyramid{p, q} {
			has(t, x, "a", "")
			scans(t, x, "", last, 9, f("a", 1, ""))
			flush(t, x)
		}
	}
	a, b := pyramid.Encode(pyramid.State{}), pyramid.Encode(pyramid.State{Patches: []pyramid.Patch{}, Elisions: []api.Elision{}})
	if !bytes.Equal(a, b) {
		t.Error("Encode")
	}
}

func TestP3AskingChangesNothing(t *testing.T) {
	k := newKeep()
	p := made(t, k, 2)
	flushed(t, p, "a", "1", "b", "2")
	put(t, p, "c", "3")
	elided(t, p, "b", "c")
	want := p.State()
	for range 3 {
		has(t, p, "a", "1", "b", "-", "c", "3", "d", "-")
		scans(t, p, "", last, 9, f("a", 1, "1"), f("c", 3, "3"))
		pyramid.Encode(p.State())
		p.Where()
		if p.Pending() != 1 || !equal(p.State(), want) || k.puts != 2 {
			t.Fatalf("%v", p.State())
		}
	}
}

func TestP7EachPyramidIsAnother(t *testing.T) {
	k := newKeep()
	s := pyramid.State{Seq: 5, Patches: []pyramid.Patch{{k.table(t, f("a", 5, "5")), 0, 5, 5}}, Elisions: []api.Elision{el("x", "y", 3)}}
	p, q := loaded(t, k, 2, s), loaded(t, k, 2, s)
	put(t, p, "a", "6", "b", "7")
	elided(t, p, "a", "b")
	flush(t, p)
	merge(t, p, true)
	p.Move(p.Where()[0], api.Addr{Segment: 50})
	if !equal(q.State(), s) || q.Pending() != 0 {
		t.Errorf("%v; want %v", q.State(), s)
	}
	has(t, q, "a", "5", "b", "-")
}
