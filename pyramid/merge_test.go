package pyramid_test

import (
	"bytes"
	"slices"
	"strconv"
	"testing"

	"flint/api"
	"flint/fact"
	"flint/pyramid"
)

func TestP1303Flush(t *testing.T) {
	k := newKeep()
	p := made(t, k, 64)
	put(t, p, "b", "1", "a", "2", "b", "3", "", "4")
	if p.Pending() != 4 || k.puts != 0 {
		t.Errorf("%d are pending, %d are kept", p.Pending(), k.puts)
	}
	flush(t, p)
	levels(t, p, 0, 1, 4)
	if l := k.facts(t, p.Where()[0]); !slices.EqualFunc(l, []api.Fact{f("", 4, "4"), f("a", 2, "2"), f("b", 3, "3"), f("b", 1, "1")}, same) {
		t.Errorf("the patch has %v", l)
	}
	flush(t, p)
	elided(t, p, "a", "b")
	flush(t, p)
	if k.puts != 1 || len(p.Where()) != 1 {
		t.Error("a Flush without facts makes a patch")
	}
	flushed(t, p, "a", "6")
	levels(t, p, 0, 1, 4, 0, 6, 6)
	has(t, p, "", "4", "a", "6", "b", "3")
}

// Facts that are elided already were put, too.
func TestP1303FlushOfElidedFacts(t *testing.T) {
	p := made(t, newKeep(), 2)
	put(t, p, "a", "1")
	elided(t, p, "a", "b")
	if p.Pending() != 1 {
		t.Errorf("%d are pending", p.Pending())
	}
	flush(t, p)
	levels(t, p, 0, 1, 1)
	has(t, p, "a", "-")
}

func TestP1303FlushFails(t *testing.T) {
	for _, want := range []api.Errno{api.ErrFull, api.ErrLost, api.ErrDown, api.ErrLong} {
		k := newKeep()
		p := made(t, k, 2)
		flushed(t, p, "a", "1")
		put(t, p, "b", "2", "a", "3")
		was := p.State()
		k.full = want
		if e := p.Flush(); e != want || p.Pending() != 2 || !equal(p.State(), was) {
			t.Errorf("%v, want %v; %d are pending, %v", e, want, p.Pending(), p.State())
		}
		has(t, p, "a", "3", "b", "2")
		k.full = api.OK
		flush(t, p)
		levels(t, p, 0, 1, 1, 0, 2, 3)
		has(t, p, "a", "3", "b", "2")
	}
}

func TestP1303FlushWithoutFactsAsksNothing(t *testing.T) {
	k := newKeep()
	k.full = api.ErrDown
	p := made(t, k, 2)
	elided(t, p, "a", "b")
	flush(t, p)
}

func TestP1303Pending(t *testing.T) {
	p := made(t, newKeep(), 2)
	for i := range 300 {
		put(t, p, strconv.Itoa(i*7%50), strconv.Itoa(i))
		if n := p.Pending(); n != i+1 {
			t.Fatalf("%d; want %d", n, i+1)
		}
	}
	p.Put(last, nil)
	elided(t, p, "0", "9")
	if n := p.Pending(); n != 300 {
		t.Fatalf("%d; want 300", n)
	}
	flush(t, p)
	put(t, p, "a", "b")
	if n := p.Pending(); n != 1 {
		t.Fatalf("%d; want 1", n)
	}
}

func TestP1303MergeAtTheFan(t *testing.T) {
	for _, fan := range []int{2, 3, 4, 63, 64} {
		p := made(t, newKeep(), fan)
		for i := range fan {
			merge(t, p, false)
			flushed(t, p, "k"+strconv.Itoa(i), "v")
		}
		merge(t, p, true)
		levels(t, p, 1, 1, uint64(fan))
		merge(t, p, false)
		for i := range fan {
			has(t, p, "k"+strconv.Itoa(i), "v")
		}
	}
}

func TestP1303MergeGoesByLevels(t *testing.T) {
	k := newKeep()
	p := made(t, k, 2)
	flushed(t, p, "a", "1", "b", "2")
	merge(t, p, true)
	levels(t, p, 1, 1, 2)
	merge(t, p, false)
	flushed(t, p, "a", "3")
	merge(t, p, false)
	levels(t, p, 0, 3, 3, 1, 1, 2)
	flushed(t, p, "c", "4", "c", "5")
	merge(t, p, true)
	levels(t, p, 1, 1, 2, 1, 3, 5)
	if l := k.facts(t, p.Where()[1]); !slices.EqualFunc(l, []api.Fact{f("a", 3, "3"), f("c", 5, "5")}, same) {
		t.Errorf("the patch has %v", l)
	}
	merge(t, p, true)
	levels(t, p, 2, 2, 5)
	if l := k.facts(t, p.Where()[0]); !slices.EqualFunc(l, []api.Fact{f("a", 3, "3"), f("b", 2, "2"), f("c", 5, "5")}, same) {
		t.Errorf("the patch has %v", l)
	}
	merge(t, p, false)
	has(t, p, "a", "3", "b", "2", "c", "5")
}

// The lowest level with enough patches is the one, whatever others there are.
func TestP1303MergeTakesTheLowestLevel(t *testing.T) {
	k := newKeep()
	var s pyramid.State
	s.Seq = 99
	for i, level := range []int{9, 9, 9, 5, 5, 4, 2, 2, 2, 2, 1, 1, 0} {
		n := uint64(i*3 + 1)
		s.Patches = append(s.Patches, pyramid.Patch{At: k.table(t, f("k"+strconv.Itoa(i), n, "v")), Level: level, Lo: n, Hi: n})
	}
	p := loaded(t, k, 3, s)
	merge(t, p, true)
	levels(t, p, 0, 37, 37, 1, 31, 31, 1, 34, 34, 3, 19, 28, 4, 16, 16, 5, 10, 10, 5, 13, 13, 9, 1, 1, 9, 4, 4, 9, 7, 7)
	merge(t, p, true)
	levels(t, p, 0, 37, 37, 1, 31, 31, 1, 34, 34, 3, 19, 28, 4, 16, 16, 5, 10, 10, 5, 13, 13, 10, 1, 7)
	merge(t, p, false)
	for i := range 13 {
		has(t, p, "k"+strconv.Itoa(i), "v")
	}
}

// There is no level above 60, so a merge of patches of level 60 makes one of 60.
func TestP1303MergeAtTheTop(t *testing.T) {
	k := newKeep()
	p := loaded(t, k, 2, pyramid.State{Seq: 9, Patches: []pyramid.Patch{
		{k.table(t, f("a", 1, "1")), 59, 1, 1}, {k.table(t, f("a", 2, "2")), 59, 2, 2},
	}})
	merge(t, p, true)
	levels(t, p, 60, 2, 2)
	s := p.State()
	s.Patches = append(s.Patches, pyramid.Patch{At: k.table(t, f("b", 3, "3")), Level: 60, Lo: 3, Hi: 3})
	p = loaded(t, k, 2, s)
	merge(t, p, true)
	levels(t, p, 60, 2, 3)
	merge(t, p, false)
	p = loaded(t, k, 2, p.State())
	has(t, p, "a", "2", "b", "3")
}

func TestP1303MergeDropsWhatIsElided(t *testing.T) {
	k := newKeep()
	p := made(t, k, 3)
	flushed(t, p, "a", "1", "b", "2", "c", "3")
	merge(t, p, true)
	flushed(t, p, "a", "4")
	elided(t, p, "a", "b")
	elided(t, p, "c", "d")
	flushed(t, p, "b", "7", "c", "8")
	merge(t, p, true)
	levels(t, p, 1, 1, 3, 1, 7, 8)
	if l := k.facts(t, p.Where()[1]); !slices.EqualFunc(l, []api.Fact{f("b", 7, "7"), f("c", 8, "8")}, same) {
		t.Errorf("the patch has %v", l)
	}
	if l := p.State().Elisions; !slices.Equal(l, []api.Elision{el("a", "b", 5), el("c", "d", 6)}) {
		t.Errorf("elisions: %v", l)
	}
	has(t, p, "a", "-", "b", "7", "c", "8")
}

// Of a newest fact that is elided no elder one comes to light, merged or not.
func TestP1303MergeHidesElderFacts(t *testing.T) {
	p := made(t, newKeep(), 2)
	flushed(t, p, "a", "1", "b", "2")
	merge(t, p, true)
	flushed(t, p, "a", "3", "c", "4")
	elided(t, p, "a", "b")
	merge(t, p, true)
	levels(t, p, 1, 1, 2, 1, 4, 4)
	has(t, p, "a", "-", "b", "2", "c", "4")
	merge(t, p, true)
	levels(t, p, 2, 2, 4)
	has(t, p, "a", "-", "b", "2", "c", "4")
	if len(p.State().Elisions) != 0 {
		t.Errorf("elisions: %v", p.State().Elisions)
	}
}

func TestP1303MergeOfNothingThatCounts(t *testing.T) {
	k := newKeep()
	p := made(t, k, 2)
	flushed(t, p, "a", "1", "b", "2", "a", "3")
	elided(t, p, "a", "c")
	puts := k.puts
	merge(t, p, true)
	if len(p.Where()) != 0 || k.puts != puts {
		t.Errorf("patches: %v; %d more are kept", p.State().Patches, k.puts-puts)
	}
	if s := p.State(); !equal(s, pyramid.State{Seq: 4}) {
		t.Errorf("%v", s)
	}
	merge(t, p, false)
	has(t, p, "a", "-", "b", "-")
	scans(t, p, "", last, 9)
	flushed(t, p, "a", "5")
	has(t, p, "a", "5")
	levels(t, p, 0, 5, 5)
}

// All elisions go only if all patches take part, and nothing is pending.
func TestP1303MergeLetsElisionsGo(t *testing.T) {
	for _, c := range []struct {
		name          string
		other, behind bool
		want          int
	}{
		{"all patches, nothing pending", false, false, 0},
		{"all patches, some pending", false, true, 2},
		{"another patch, nothing pending", true, false, 2},
		{"another patch, some pending", true, true, 2},
	} {
		p := made(t, newKeep(), 3)
		if c.other {
			flushed(t, p, "a", "1", "b", "1", "c", "1")
			merge(t, p, true)
		}
		flushed(t, p, "a", "x", "b", "y", "c", "z")
		if c.behind {
			put(t, p, "c", "pending")
		}
		elided(t, p, "a", "b")
		elided(t, p, "c", "d")
		merge(t, p, true)
		if l := p.State().Elisions; len(l) != c.want {
			t.Errorf("%s: %v", c.name, l)
		}
		has(t, p, "a", "-", "b", "y", "c", "-")
		flush(t, p)
		has(t, p, "a", "-", "b", "y", "c", "-")
	}
}

// manyElided elides n stretches that do not touch: e0 to e0 and a byte 0, and so on.
func manyElided(t *testing.T, p *pyramid.Pyramid, n int) {
	t.Helper()
	for i := range n {
		key := "e" + strconv.Itoa(i)
		elided(t, p, key, key+"\x00")
	}
}

func TestP1303MergeForElisions(t *testing.T) {
	k := newKeep()
	p := made(t, k, 4)
	flushed(t, p, "e1", "1", "b", "2", "c", "3", "e2", "4")
	merge(t, p, true)
	flushed(t, p, "b", "5", "e64", "6")
	manyElided(t, p, 64)
	merge(t, p, false)
	elided(t, p, "e0", "e0\x00") // no more stretches than there are
	merge(t, p, false)
	elided(t, p, "e64", "e64\x00")
	merge(t, p, true)
	levels(t, p, 1, 3, 5)
	if l := k.facts(t, p.Where()[0]); !slices.EqualFunc(l, []api.Fact{f("b", 5, "5"), f("c", 3, "3")}, same) {
		t.Errorf("the patch has %v", l)
	}
	if len(p.State().Elisions) != 0 {
		t.Errorf("elisions: %v", p.State().Elisions)
	}
	merge(t, p, false)
	has(t, p, "b", "5", "c", "3", "e1", "-", "e2", "-", "e64", "-")
}

// A level that has enough patches comes ahead of elisions that are too many.
func TestP1303MergeForElisionsComesSecond(t *testing.T) {
	p := made(t, newKeep(), 2)
	flushed(t, p, "a", "1", "b", "2")
	merge(t, p, true)
	flushed(t, p, "c", "3", "d", "4")
	manyElided(t, p, 65)
	merge(t, p, true)
	levels(t, p, 1, 1, 2, 1, 3, 4)
	if n := len(p.State().Elisions); n != 65 {
		t.Errorf("%d elisions", n)
	}
	merge(t, p, true)
	levels(t, p, 2, 1, 4)
	if n := len(p.State().Elisions); n != 0 {
		t.Errorf("%d elisions", n)
	}
	merge(t, p, false)
}

func TestP1303MergeForElisionsOfOnePatchOrNone(t *testing.T) {
	p := made(t, newKeep(), 2)
	manyElided(t, p, 65)
	merge(t, p, false)
	put(t, p, "a", "1")
	merge(t, p, false)
	flush(t, p)
	merge(t, p, true)
	levels(t, p, 0, 66, 66)
	if n := len(p.State().Elisions); n != 0 {
		t.Errorf("%d elisions", n)
	}
	merge(t, p, false)
	has(t, p, "a", "1")
}

// What is pending may be elided, so that no elision goes.
func TestP1303MergeForElisionsWhileSomePend(t *testing.T) {
	p := made(t, newKeep(), 4)
	flushed(t, p, "a", "1", "b", "2")
	put(t, p, "e3", "3")
	manyElided(t, p, 65)
	merge(t, p, true)
	levels(t, p, 0, 1, 2)
	if n := len(p.State().Elisions); n != 65 {
		t.Errorf("%d elisions", n)
	}
	has(t, p, "a", "1", "e3", "-")
	flush(t, p)
	merge(t, p, true)
	levels(t, p, 0, 1, 2)
	merge(t, p, false)
	has(t, p, "a", "1", "e3", "-")
}

func TestP1303MergeFails(t *testing.T) {
	fail := func(name string, k *keep, p *pyramid.Pyramid, want api.Errno) {
		t.Helper()
		was := p.State()
		if did, e := p.Merge(); did || e != want || !equal(p.State(), was) || p.Pending() != 1 {
			t.Errorf("%s: %v, %v, want %v; %v", name, did, e, want, p.State())
		}
		k.full = api.OK
		k.lose(api.OK)
		has(t, p, "a", "5", "b", "-", "c", "-", "d", "6")
	}
	for _, fan := range []int{2, 64} {
		k := newKeep()
		p := made(t, k, fan)
		flushed(t, p, "a", "1", "b", "2", "c", "3")
		elided(t, p, "b", "c")
		put(t, p, "a", "5", "d", "6")
		flush(t, p)
		put(t, p, "c", "pending")
		elided(t, p, "c", "d")
		if fan == 64 {
			manyElided(t, p, 65)
		}
		for _, want := range []api.Errno{api.ErrLost, api.ErrDown, api.ErrArg} {
			for _, at := range p.Where()[:2] {
				k.lost[at] = want
				fail("a patch that cannot be read", k, p, want)
			}
		}
		for _, want := range []api.Errno{api.ErrFull, api.ErrLost, api.ErrDown} {
			k.full = want
			fail("a Keep that takes nothing", k, p, want)
		}
		at := p.Where()[1]
		good := k.blobs[at]
		k.blobs[at] = bytes.Repeat([]byte("noise"), 50)
		was := p.State()
		if did, e := p.Merge(); did || e != api.ErrForm || !equal(p.State(), was) {
			t.Errorf("no table: %v, %v, want form; %v", did, e, p.State())
		}
		k.blobs[at] = good
		merge(t, p, true)
		has(t, p, "a", "5", "b", "-", "c", "-", "d", "6")
	}
}

// Without a fact that counts the Keep is handed nothing, and cannot refuse.
func TestP1303MergeToNothingNeedsNoRoom(t *testing.T) {
	k := newKeep()
	p := made(t, k, 2)
	flushed(t, p, "a", "1", "a", "2")
	elided(t, p, "", last)
	k.full = api.ErrFull
	merge(t, p, true)
	if len(p.Where()) != 0 {
		t.Errorf("%v", p.State())
	}
}

// numbered tells n facts of keys from the number from on.
func numbered(from, n int) []api.Fact {
	l := make([]api.Fact, n)
	for i := range l {
		key := from + i
		l[i] = api.Fact{Key: string([]byte{byte(key >> 24), byte(key >> 16), byte(key >> 8), byte(key)}), Seq: uint64(key + 1)}
	}
	return l
}

// A table has 1 << 20 facts at most.
func TestP1303MoreFactsThanATableHas(t *testing.T) {
	const most = 1 << 20
	k := newKeep()
	p := made(t, k, 2)
	l := numbered(0, most+1)
	for _, x := range l {
		p.Put(x.Key, x.Value)
	}
	k.full = api.ErrFull
	if e := p.Flush(); e != api.ErrFull || p.Pending() != most+1 || len(p.Where()) != 0 {
		t.Fatalf("Flush: %v; %d are pending, %d patches", e, p.Pending(), len(p.Where()))
	}
	k.full = api.OK
	flush(t, p)
	levels(t, p, 0, 1, most, 0, most+1, most+1)
	has(t, p, l[0].Key, "", l[most/2].Key, "", l[most].Key, "")
	was := p.State()
	if did, e := p.Merge(); did || e != api.ErrLong || !equal(p.State(), was) {
		t.Fatalf("Merge: %v, %v; want long", did, e)
	}
	elided(t, p, l[7].Key, l[8].Key)
	merge(t, p, true)
	levels(t, p, 1, 1, most+1)
	has(t, p, l[0].Key, "", l[7].Key, "-", l[most].Key, "")
}

// Each table that is made can be opened, whatever its facts are.
func TestP1303PatchesAreTables(t *testing.T) {
	k := newKeep()
	p := made(t, k, 2)
	r := source(13, 1)
	for range 30 {
		for range r.IntN(50) {
			p.Put(key(r), bytes.Repeat([]byte{7}, r.IntN(1000)))
		}
		flush(t, p)
		p.Merge()
	}
	for _, at := range p.Where() {
		if table, e := fact.Open(k.blobs[at]); e != api.OK || table.Len() == 0 {
			t.Errorf("at %v: %v", at, e)
		}
	}
}
