package pyramid_test

import (
	"math"
	"slices"
	"strings"
	"testing"

	"flint/api"
	"flint/pyramid"
)

func TestP1301New(t *testing.T) {
	for fan, want := range map[int]api.Errno{
		math.MinInt: api.ErrArg, -2: api.ErrArg, -1: api.ErrArg, 0: api.ErrArg, 1: api.ErrArg,
		2: api.OK, 3: api.OK, 4: api.OK, 63: api.OK, 64: api.OK,
		65: api.ErrArg, 128: api.ErrArg, math.MaxInt: api.ErrArg,
	} {
		p, e := pyramid.New(newKeep(), fan)
		q, g := pyramid.Load(newKeep(), fan, pyramid.State{})
		if e != want || g != want || (p == nil) != (want != api.OK) || (q == nil) != (want != api.OK) {
			t.Errorf("fan %d: %v, %v; want %v", fan, e, g, want)
		}
		if bad, e := pyramid.Load(newKeep(), fan, pyramid.State{Patches: []pyramid.Patch{{Level: -1}}}); bad != nil || e == api.OK || want != api.OK && e != want {
			t.Errorf("fan %d, and a bad State: %v", fan, e)
		}
	}
}

func TestP1301NewHasNoFacts(t *testing.T) {
	k := newKeep()
	p, e := pyramid.New(k, 2)
	if e != api.OK || p.Pending() != 0 || len(p.Where()) != 0 || !equal(p.State(), pyramid.State{}) {
		t.Fatalf("%v: %v", e, p.State())
	}
	has(t, p, "", "-", "a", "-")
	scans(t, p, "", last, 9)
	merge(t, p, false)
	flush(t, p)
	if k.puts != 0 || len(k.gets) != 0 {
		t.Error("the Keep is asked")
	}
}

func TestP1301LoadForm(t *testing.T) {
	at := api.Addr{Segment: 1, N: 9}
	good := pyramid.State{
		Seq:      9,
		Patches:  []pyramid.Patch{{at, 0, 7, 9}, {at, 3, 4, 4}, {at, 60, 1, 3}},
		Elisions: []api.Elision{el("a", "c", 9), el("d", "e", 0)},
	}
	for _, c := range []struct {
		name   string
		change func(s *pyramid.State)
		want   api.Errno
	}{
		{"as it is", func(s *pyramid.State) {}, api.OK},
		{"Level -1", func(s *pyramid.State) { s.Patches[0].Level = -1 }, api.ErrForm},
		{"Level far below 0", func(s *pyramid.State) { s.Patches[2].Level = math.MinInt }, api.ErrForm},
		{"Level 61", func(s *pyramid.State) { s.Patches[2].Level = 61 }, api.ErrForm},
		{"Level far above 60", func(s *pyramid.State) { s.Patches[1].Level = math.MaxInt }, api.ErrForm},
		{"Lo above Hi", func(s *pyramid.State) { s.Patches[1].Lo = 5 }, api.ErrForm},
		{"Lo far above Hi", func(s *pyramid.State) { s.Patches[0].Lo = math.MaxUint64 }, api.ErrForm},
		{"Lo is Hi", func(s *pyramid.State) { s.Patches[0].Lo = 9 }, api.OK},
		{"Hi is above Seq", func(s *pyramid.State) { s.Patches[0].Hi = 10 }, api.ErrForm},
		{"Hi of the last is above Seq", func(s *pyramid.State) { s.Patches[2].Hi = math.MaxUint64 }, api.ErrForm},
		{"an elision's Seq is above Seq", func(s *pyramid.State) { s.Elisions[0].Seq = 10 }, api.ErrForm},
		{"the last elision's Seq is above Seq", func(s *pyramid.State) { s.Elisions[1].Seq = math.MaxUint64 }, api.ErrForm},
		{"Lo is Hi of an elision", func(s *pyramid.State) { s.Elisions[0].Lo = "c" }, api.ErrForm},
		{"Lo is above Hi of an elision", func(s *pyramid.State) { s.Elisions[1].Hi = "a" }, api.ErrForm},
		{"an empty elision", func(s *pyramid.State) { s.Elisions[1] = api.Elision{} }, api.ErrForm},
		{"Seq is below all", func(s *pyramid.State) { s.Seq = 8 }, api.ErrForm},
		{"Seq 0", func(s *pyramid.State) { s.Seq = 0 }, api.ErrForm},
		{"Seq is above all", func(s *pyramid.State) { s.Seq = math.MaxUint64 }, api.OK},
	} {
		s := pyramid.State{Seq: good.Seq, Patches: slices.Clone(good.Patches), Elisions: slices.Clone(good.Elisions)}
		c.change(&s)
		p, e := pyramid.Load(newKeep(), 4, s)
		if e != c.want || (p == nil) != (e != api.OK) {
			t.Errorf("%s: %v; want %v", c.name, e, c.want)
		}
		if p != nil && (!equal(p.State(), s) || p.Pending() != 0) {
			t.Errorf("%s: the State is %v", c.name, p.State())
		}
		if p, e := pyramid.Load(newKeep(), 1, s); e != api.ErrArg || p != nil {
			t.Errorf("%s, fan 1: %v; want arg", c.name, e)
		}
	}
}

func TestP1301PatchesAreReadWhenTheyAreAskedFor(t *testing.T) {
	k := newKeep()
	s := pyramid.State{Seq: 9, Patches: []pyramid.Patch{{At: k.table(t, f("a", 3, "x"), f("b", 7, "y")), Lo: 3, Hi: 7}}}
	var p *pyramid.Pyramid
	n := k.asked(func() {
		p = loaded(t, k, 3, s)
		put(t, p, "c", "z")
		elided(t, p, "b", "c")
		flush(t, p)
		merge(t, p, false)
		p.State()
		p.Where()
	})
	if n != 0 {
		t.Errorf("%d are read", n)
	}
	has(t, p, "a", "x", "b", "-", "c", "z")
	put(t, p, "b", "new")
	has(t, p, "b", "new")
}

func TestP1302PutAndGet(t *testing.T) {
	p := made(t, newKeep(), 2)
	put(t, p, "b", "1", "a", "2", "", "3", "b", "", "a\x00", "5", "\xff", "6")
	for range 2 {
		has(t, p, "b", "", "a", "2", "", "3", "a\x00", "5", "\xff", "6")
		has(t, p, "c", "-", "\x00", "-", "a\x00\x00", "-", "A", "-", "\xff\xff", "-", last, "-")
		flush(t, p)
	}
	flushed(t, p, "a", "7", "c", "8", "a", "9")
	has(t, p, "b", "", "a", "9", "c", "8", "", "3")
}

func TestP1302PutTooLong(t *testing.T) {
	k := newKeep()
	p := made(t, k, 2)
	key, value := strings.Repeat("k", 1024), strings.Repeat("v", 1<<20)
	put(t, p, key, value)
	for _, c := range [][2]string{{key + "k", ""}, {"a", value + "v"}, {key + "k", value + "v"}, {strings.Repeat("k", 1<<20), value}} {
		if n, e := p.Put(c[0], []byte(c[1])); n != 0 || e != api.ErrLong {
			t.Errorf("%d and %d bytes: %d, %v; want long", len(c[0]), len(c[1]), n, e)
		}
	}
	if p.Pending() != 1 || p.State().Seq != 1 {
		t.Errorf("%d are pending, at %d", p.Pending(), p.State().Seq)
	}
	for range 2 {
		has(t, p, key, value, key+"k", "-", "a", "-")
		flush(t, p)
	}
}

func TestP1302Elide(t *testing.T) {
	all := []string{"a", "1", "b", "2", "b\x00", "3", "c", "4", "cc", "5", "d", "6"}
	for _, kept := range []bool{false, true} {
		p := made(t, newKeep(), 64)
		if put(t, p, all...); kept {
			flush(t, p)
		}
		elided(t, p, "b", "cc")
		has(t, p, "a", "1", "b", "-", "b\x00", "-", "c", "-", "cc", "5", "d", "6")
		put(t, p, "c", "new")
		has(t, p, "b", "-", "c", "new")
		elided(t, p, "d", "d\x00")
		elided(t, p, "x", strings.Repeat("y", 5000))
		if flush(t, p); kept {
			flushed(t, p, "b", "newer")
			has(t, p, "b", "newer")
			elided(t, p, "b", "b\x00")
		}
		has(t, p, "a", "1", "b", "-", "b\x00", "-", "c", "new", "cc", "5", "d", "-")
		elided(t, p, "", last)
		has(t, p, "a", "-", "b", "-", "b\x00", "-", "c", "-", "cc", "-", "d", "-")
	}
}

func TestP1302ElideArg(t *testing.T) {
	p := made(t, newKeep(), 2)
	put(t, p, "a", "1", "b", "2")
	for _, c := range [][2]string{{"", ""}, {"a", "a"}, {"b", "a"}, {"a", ""}, {"a\x00", "a"}, {"\xff", "\x7f"}, {last, "a"}} {
		if n, e := p.Elide(c[0], c[1]); n != 0 || e != api.ErrArg {
			t.Errorf("Elide(%q, %q): %d, %v; want arg", c[0], c[1], n, e)
		}
	}
	if s := p.State(); !equal(s, pyramid.State{Seq: 2}) {
		t.Errorf("behind errors: %v", s)
	}
	has(t, p, "a", "1", "b", "2")
}

// An elision hides elder facts, wherever they are, and no newer ones.
func TestP1302AnElidedNewestFactHidesElderOnes(t *testing.T) {
	k := newKeep()
	p := made(t, k, 64)
	flushed(t, p, "a", "old", "a", "new")
	elided(t, p, "a", "b")
	has(t, p, "a", "-")
	scans(t, p, "", last, 9)
	put(t, p, "a", "x", "a", "y")
	has(t, p, "a", "y")
	scans(t, p, "", last, 9, f("a", 5, "y"))
	elided(t, p, "a", "b")
	has(t, p, "a", "-")
	scans(t, p, "", last, 9)
}

// The Seq counts, not the level, nor where a State has a patch.
func TestP1302NewestOfAnyLevel(t *testing.T) {
	k := newKeep()
	old, middle, young := k.table(t, f("a", 1, "1"), f("b", 2, "2"), f("c", 3, "3")), k.table(t, f("a", 5, "5"), f("c", 4, "4")), k.table(t, f("a", 8, "8"), f("d", 7, "7"), f("d", 6, "6"))
	for _, l := range [][]pyramid.Patch{
		{{young, 0, 6, 8}, {middle, 0, 4, 5}, {old, 0, 1, 3}},
		{{young, 0, 6, 8}, {middle, 1, 4, 5}, {old, 2, 1, 3}},
		{{old, 0, 1, 3}, {middle, 1, 4, 5}, {young, 2, 6, 8}},
		{{middle, 5, 4, 5}, {old, 0, 1, 3}, {young, 5, 6, 8}},
	} {
		p := loaded(t, k, 4, pyramid.State{Seq: 9, Patches: l})
		for _, key := range []string{"", "e"} {
			put(t, p, key, "new")
			has(t, p, "a", "8", "b", "2", "c", "4", "d", "7", "bb", "-")
			scans(t, p, "a", "d\x00", 9, f("a", 8, "8"), f("b", 2, "2"), f("c", 4, "4"), f("d", 7, "7"))
		}
	}
}

// Facts of patches whose numbers lie across each other are told by their own numbers.
func TestP1302PatchesAcrossEachOther(t *testing.T) {
	k := newKeep()
	one := pyramid.Patch{At: k.table(t, f("a", 9, "9"), f("b", 3, "3"), f("c", 4, "4")), Lo: 3, Hi: 9}
	two := pyramid.Patch{At: k.table(t, f("b", 5, "5"), f("c", 2, "2"), f("d", 1, "1")), Lo: 1, Hi: 5}
	for _, l := range [][]pyramid.Patch{{one, two}, {two, one}} {
		p := loaded(t, k, 4, pyramid.State{Seq: 9, Patches: l})
		has(t, p, "a", "9", "b", "5", "c", "4", "d", "1", "e", "-")
		scans(t, p, "a", "e", 9, f("a", 9, "9"), f("b", 5, "5"), f("c", 4, "4"), f("d", 1, "1"))
	}
}

func TestP1302Scan(t *testing.T) {
	for _, how := range []string{"pending", "flushed", "parted", "merged"} {
		p := made(t, newKeep(), 2)
		write := put
		if how == "parted" {
			write = flushed
		}
		write(t, p, "b", "old", "a", "2", "d", "3", "c", "4")
		write(t, p, "b", "5", "bb", "6", "", "7")
		elided(t, p, "c", "d")
		write(t, p, "e", "9")
		if how != "pending" {
			flush(t, p)
		}
		if how == "merged" {
			flushed(t, p, "f", "10")
			merge(t, p, true)
		}
		all := []api.Fact{f("", 7, "7"), f("a", 2, "2"), f("b", 5, "5"), f("bb", 6, "6"), f("d", 3, "3"), f("e", 9, "9")}
		for most := range 7 {
			scans(t, p, "", "e\x00", most, all[:most]...)
		}
		for _, most := range []int{6, 7, 100, math.MaxInt} {
			scans(t, p, "", "e\x00", most, all...)
		}
		for _, most := range []int{0, -1, math.MinInt} {
			scans(t, p, "", "e\x00", most)
		}
		scans(t, p, "", "e", 9, all[:5]...)
		scans(t, p, "\x00", "d", 9, all[1:4]...)
		scans(t, p, "b", "bb", 9, all[2])
		scans(t, p, "b", "b\x00", 9, all[2])
		scans(t, p, "b\x00", "e", 1, all[3])
		scans(t, p, "bbb", "d", 9)
		scans(t, p, "c", "c\x00", 9)
		scans(t, p, "b", "b", 9)
		scans(t, p, "d", "b", 9)
		scans(t, p, last, "", 9)
		scans(t, p, "x", last, 9)
	}
}

func TestP1302LostPatches(t *testing.T) {
	for _, want := range []api.Errno{api.ErrLost, api.ErrDown, api.ErrArg, api.ErrFull} {
		k := newKeep()
		p := made(t, k, 4)
		flushed(t, p, "a", "1", "b", "2", "c", "3")
		k.lost[p.Where()[1]] = want
		for _, key := range []string{"a", "b", "none"} {
			if v, ok, e := p.Get(key); len(v) != 0 || ok || e != want {
				t.Errorf("Get(%q): %q, %v, %v; want %v", key, v, ok, e, want)
			}
		}
		if l, e := p.Scan("", last, 1); len(l) != 0 || e != want {
			t.Errorf("Scan: %v, %v; want %v", l, e, want)
		}
		k.lose(api.OK)
		has(t, p, "a", "1", "b", "2", "c", "3", "none", "-")
		scans(t, p, "", last, 9, f("a", 1, "1"), f("b", 2, "2"), f("c", 3, "3"))
	}
}

// What is newer than all that a patch has needs none of that patch's bytes.
func TestP1302NoPatchIsReadThatCannotCount(t *testing.T) {
	k := newKeep()
	p := made(t, k, 4)
	flushed(t, p, "a", "old", "b", "1", "c", "2")
	put(t, p, "a", "new")
	if n := k.asked(func() { has(t, p, "a", "new") }); n != 0 {
		t.Errorf("%d are read for a fact that is pending", n)
	}
	if n := k.asked(func() { has(t, p, "c", "2") }); n != 1 {
		t.Errorf("%d are read for a fact of the newest patch", n)
	}
	n := k.asked(func() {
		scans(t, p, "", last, 0)
		scans(t, p, "b", "b", 9)
		scans(t, p, "b", "a", 9)
	})
	if n != 0 {
		t.Errorf("%d are read for no key", n)
	}
}

func TestP1302NoTables(t *testing.T) {
	for i, spoil := range []func(b []byte) []byte{
		func(b []byte) []byte { return nil },
		func(b []byte) []byte { return b[:1] },
		func(b []byte) []byte { return b[:len(b)-1] },
		func(b []byte) []byte { return append([]byte{0}, b...) },
		func(b []byte) []byte { b[0] ^= 1; return b },
		func(b []byte) []byte { b[len(b)-1] ^= 0x80; return b },
		func(b []byte) []byte { return []byte(strings.Repeat("noise", 100)) },
	} {
		k := newKeep()
		p := made(t, k, 2)
		flushed(t, p, "a", "1", "b", "2")
		at := p.Where()[0]
		k.blobs[at] = spoil(k.blobs[at])
		if v, ok, e := p.Get("a"); len(v) != 0 || ok || e != api.ErrForm {
			t.Errorf("%d: Get: %q, %v, %v; want form", i, v, ok, e)
		}
		if l, e := p.Scan("x", "y", 1); len(l) != 0 || e != api.ErrForm {
			t.Errorf("%d: Scan: %v, %v; want form", i, l, e)
		}
		if did, e := p.Merge(); did || e != api.ErrForm {
			t.Errorf("%d: Merge: %v, %v; want form", i, did, e)
		}
	}
}

// Behind the greatest number there is none: what was put stays the newest.
func TestP1302NumbersEnd(t *testing.T) {
	k := newKeep()
	p := loaded(t, k, 2, pyramid.State{Seq: math.MaxUint64 - 2})
	put(t, p, "a", "1")
	elided(t, p, "b", "c")
	was := p.State()
	if n, e := p.Put("a", nil); n != 0 || e != api.ErrFull {
		t.Errorf("Put: %d, %v; want full", n, e)
	}
	if n, e := p.Elide("a", "b"); n != 0 || e != api.ErrFull {
		t.Errorf("Elide: %d, %v; want full", n, e)
	}
	if n, e := p.Put(last, nil); n != 0 || e != api.ErrLong {
		t.Errorf("Put: %d, %v; want long", n, e)
	}
	if n, e := p.Elide("b", "a"); n != 0 || e != api.ErrArg {
		t.Errorf("Elide: %d, %v; want arg", n, e)
	}
	if !equal(p.State(), was) || p.Pending() != 1 {
		t.Errorf("behind errors: %v", p.State())
	}
	has(t, p, "a", "1")
	flush(t, p)
	has(t, p, "a", "1")
	scans(t, p, "", last, 9, f("a", math.MaxUint64-1, "1"))
}
