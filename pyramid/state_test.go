package pyramid_test

import (
	"math"
	"slices"
	"strings"
	"testing"

	"flint/api"
	"flint/pyramid"
)

func TestP1304State(t *testing.T) {
	k := newKeep()
	p := made(t, k, 3)
	flushed(t, p, "a", "1", "b", "2", "c", "3")
	merge(t, p, true)
	flushed(t, p, "d", "4", "a", "5")
	elided(t, p, "b", "d")
	elided(t, p, "c", "x")
	put(t, p, "e", "8")
	at := p.Where()
	want := pyramid.State{
		Seq:      8,
		Patches:  []pyramid.Patch{{at[0], 0, 4, 4}, {at[1], 0, 5, 5}, {at[2], 1, 1, 3}},
		Elisions: []api.Elision{el("b", "c", 6), el("c", "x", 7)},
	}
	if s := p.State(); !equal(s, want) {
		t.Errorf("%v; want %v", s, want)
	}
	if len(at) != 3 || !slices.EqualFunc(k.facts(t, at[1]), []api.Fact{f("a", 5, "5")}, same) || len(k.facts(t, at[2])) != 3 {
		t.Errorf("Where: %v", at)
	}
}

// What is pending is in no State.
func TestP1304StateWithoutWhatIsPending(t *testing.T) {
	k := newKeep()
	p := made(t, k, 2)
	flushed(t, p, "a", "1", "b", "2")
	put(t, p, "a", "3", "c", "4")
	q := loaded(t, k, 2, p.State())
	if q.Pending() != 0 {
		t.Errorf("%d are pending", q.Pending())
	}
	has(t, q, "a", "1", "b", "2", "c", "-")
	put(t, q, "c", "5")
	has(t, q, "a", "1", "b", "2", "c", "5")
	has(t, p, "a", "3", "b", "2", "c", "4")
}

// A State's patches are by Level, then Lo, and its elisions plain, also behind a Load of other ones.
func TestP1304StateIsInOrder(t *testing.T) {
	at := func(n uint64) api.Addr { return api.Addr{Segment: n} }
	s := pyramid.State{
		Seq:      20,
		Patches:  []pyramid.Patch{{at(1), 2, 1, 2}, {at(2), 0, 9, 9}, {at(3), 0, 8, 20}, {at(4), 1, 4, 5}, {at(5), 0, 9, 10}, {at(6), 1, 3, 3}},
		Elisions: []api.Elision{el("m", "p", 4), el("a", "n", 9), el("p", "q", 4)},
	}
	p := loaded(t, newKeep(), 4, s)
	want := pyramid.State{
		Seq:      20,
		Patches:  []pyramid.Patch{{at(3), 0, 8, 20}, {at(2), 0, 9, 9}, {at(5), 0, 9, 10}, {at(6), 1, 3, 3}, {at(4), 1, 4, 5}, {at(1), 2, 1, 2}},
		Elisions: []api.Elision{el("a", "n", 9), el("n", "q", 4)},
	}
	if got := p.State(); !equal(got, want) {
		t.Errorf("%v; want %v", got, want)
	}
	if l := p.Where(); !slices.Equal(l, []api.Addr{at(3), at(2), at(5), at(6), at(4), at(1)}) {
		t.Errorf("Where: %v", l)
	}
}

func TestP1304Move(t *testing.T) {
	k := newKeep()
	p := made(t, k, 4)
	flushed(t, p, "a", "1", "b", "2", "c", "3")
	was := p.State()
	from := p.Where()[1]
	to := k.lay(k.blobs[from])
	for _, bad := range []api.Addr{{}, to, {Segment: from.Segment}, {Segment: from.Segment, At: from.At, N: from.N + 1}, {Segment: from.Segment, At: from.At - 1, N: from.N}, {Segment: from.Segment + 9, At: from.At, N: from.N}} {
		if p.Move(bad, from) || !equal(p.State(), was) {
			t.Errorf("Move of %v, where nothing lies: %v", bad, p.State())
		}
	}
	if !p.Move(from, to) {
		t.Error("Move: false")
	}
	want := p.State()
	was.Patches[1].At = to
	if !equal(want, was) || !slices.Equal(p.Where(), []api.Addr{was.Patches[0].At, to, was.Patches[2].At}) {
		t.Errorf("%v; want %v", want, was)
	}
	delete(k.blobs, from)
	has(t, p, "a", "1", "b", "2", "c", "3")
	if p.Move(from, to) {
		t.Error("Move again: true")
	}
	if !p.Move(to, to) || !equal(p.State(), want) {
		t.Error("Move to where it lies")
	}
	flushed(t, p, "d", "4")
	merge(t, p, true)
	has(t, p, "a", "1", "b", "2", "c", "3", "d", "4")
	if p.Move(to, from) {
		t.Error("Move of a patch that is no more: true")
	}
}

func TestP1304MoveOfAllThatLieThere(t *testing.T) {
	k := newKeep()
	from := k.table(t, f("a", 1, "1"))
	p := loaded(t, k, 4, pyramid.State{Seq: 1, Patches: []pyramid.Patch{{from, 0, 1, 1}, {from, 3, 1, 1}}})
	to := k.lay(k.blobs[from])
	if !p.Move(from, to) || !slices.Equal(p.Where(), []api.Addr{to, to}) {
		t.Errorf("%v", p.Where())
	}
}

// states tells some that could be, and some that could not.
func states() []pyramid.State {
	at := func(a uint64, b, c int) api.Addr { return api.Addr{Segment: a, At: b, N: c} }
	return []pyramid.State{
		{},
		{Seq: 1},
		{Seq: math.MaxUint64},
		{Seq: 300, Patches: []pyramid.Patch{{at(1, 2, 3), 4, 5, 6}}},
		{Seq: 300, Elisions: []api.Elision{el("a", "b", 7)}},
		{Patches: []pyramid.Patch{{}}},
		{Elisions: []api.Elision{{}}},
		{Patches: []pyramid.Patch{{}, {}}, Elisions: []api.Elision{{}, {}, {}}},
		{Seq: 9, Patches: []pyramid.Patch{{at(math.MaxUint64, math.MaxInt, math.MaxInt), 60, 0, math.MaxUint64}, {at(1<<63, 0, 1<<40), 0, 1, 1}}},
		{Seq: 9, Patches: []pyramid.Patch{{at(0, -1, math.MinInt), -1, 9, 3}, {at(7, 0, 0), math.MinInt, 0, 0}, {at(6, 0, 0), math.MaxInt, 0, 0}}},
		{Seq: 9, Elisions: []api.Elision{el("", "\x00", 0), el("\x80", "\xff", math.MaxUint64), el(strings.Repeat("k", 3<<20), last, 1)}},
		{Seq: 1 << 40, Patches: []pyramid.Patch{{at(1, 2, 3), 4, 5, 6}, {at(1, 2, 3), 4, 5, 6}}, Elisions: []api.Elision{el("z", "a", 8), el("c", "d", 1), el("c", "d", 1)}},
	}
}

func TestP1305ThereAndBack(t *testing.T) {
	var all []string
	for i, s := range states() {
		b := pyramid.Encode(s)
		got, e := pyramid.Decode(b)
		if e != api.OK || !equal(got, s) {
			t.Errorf("%d: %v, %v; want %v", i, got, e, s)
		}
		if again := pyramid.Encode(got); string(again) != string(b) {
			t.Errorf("%d: % X; want % X", i, again, b)
		}
		all = append(all, string(b))
	}
	slices.Sort(all)
	if n := len(slices.Compact(all)); n != len(states()) {
		t.Errorf("two states have the same bytes")
	}
}

func TestP1305BytesOfNoState(t *testing.T) {
	refused := func(what string, b []byte) {
		t.Helper()
		if s, e := pyramid.Decode(b); e != api.ErrForm || !equal(s, pyramid.State{}) {
			t.Errorf("%s: %v, %v; want form", what, s, e)
		}
	}
	refused("none", nil)
	refused("empty", []byte{})
	for _, s := range states() {
		b := pyramid.Encode(s)
		if len(b) > 1000 {
			continue
		}
		for n := range b {
			refused("a front", b[:n])
			refused("an end", b[n+1:])
		}
		for _, x := range []byte{0, 1, 0x80, 0xFF} {
			refused("one byte more", append(slices.Clone(b), x))
			refused("one byte ahead", append([]byte{x}, b...))
		}
		for i := range 8 * len(b) {
			b[i/8] ^= 1 << (i % 8)
			refused("another bit", b)
			b[i/8] ^= 1 << (i % 8)
		}
		refused("twice", append(slices.Clone(b), b...))
	}
	r := source(13, 2)
	for n := range 3000 {
		b := make([]byte, n%100)
		for i := range b {
			b[i] = byte(r.Uint32())
		}
		refused("noise", b)
	}
}
