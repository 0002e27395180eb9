package elide_test

import (
	"math"
	"slices"
	"testing"

	"flint/api"
	"flint/elide"
)

func TestP1203Example(t *testing.T) {
	lists(t, "example 1", setOf(t, e("a", "m", 5), e("c", "f", 9)), e("a", "c", 5), e("c", "f", 9), e("f", "m", 5))
}

// Two elisions, in each way in which two stretches may lie.
func TestP1203TwoElisions(t *testing.T) {
	for _, c := range []struct {
		name string
		a, b api.Elision
		want []api.Elision
	}{
		{"apart", e("a", "b", 1), e("c", "d", 2), []api.Elision{e("a", "b", 1), e("c", "d", 2)}},
		{"apart, alike", e("a", "b", 1), e("c", "d", 1), []api.Elision{e("a", "b", 1), e("c", "d", 1)}},
		{"apart by one key", e("a", "b", 1), e("b\x00", "d", 1), []api.Elision{e("a", "b", 1), e("b\x00", "d", 1)}},
		{"they touch", e("a", "b", 1), e("b", "d", 2), []api.Elision{e("a", "b", 1), e("b", "d", 2)}},
		{"they touch, alike", e("a", "b", 1), e("b", "d", 1), []api.Elision{e("a", "d", 1)}},
		{"they touch, alike, number 0", e("", "b", 0), e("b", "d", 0), []api.Elision{e("", "d", 0)}},
		{"they touch, alike, number greatest", e("a", "b", math.MaxUint64), e("b", "d", math.MaxUint64), []api.Elision{e("a", "d", math.MaxUint64)}},
		{"they cross, the first is newer", e("a", "c", 2), e("b", "d", 1), []api.Elision{e("a", "c", 2), e("c", "d", 1)}},
		{"they cross, the second is newer", e("a", "c", 1), e("b", "d", 2), []api.Elision{e("a", "b", 1), e("b", "d", 2)}},
		{"they cross, alike", e("a", "c", 1), e("b", "d", 1), []api.Elision{e("a", "d", 1)}},
		{"one inside is newer", e("a", "d", 1), e("b", "c", 2), []api.Elision{e("a", "b", 1), e("b", "c", 2), e("c", "d", 1)}},
		{"one inside is elder", e("a", "d", 2), e("b", "c", 1), []api.Elision{e("a", "d", 2)}},
		{"one inside is alike", e("a", "d", 2), e("b", "c", 2), []api.Elision{e("a", "d", 2)}},
		{"one in front is newer", e("a", "d", 1), e("a", "c", 2), []api.Elision{e("a", "c", 2), e("c", "d", 1)}},
		{"one in front is elder", e("a", "d", 2), e("a", "c", 1), []api.Elision{e("a", "d", 2)}},
		{"one at the end is newer", e("a", "d", 1), e("b", "d", 2), []api.Elision{e("a", "b", 1), e("b", "d", 2)}},
		{"one at the end is elder", e("a", "d", 2), e("b", "d", 1), []api.Elision{e("a", "d", 2)}},
		{"one stretch", e("a", "d", 1), e("a", "d", 2), []api.Elision{e("a", "d", 2)}},
		{"the same", e("a", "d", 1), e("a", "d", 1), []api.Elision{e("a", "d", 1)}},
		{"number 0 inside", e("a", "d", 1), e("b", "c", 0), []api.Elision{e("a", "d", 1)}},
		{"number 0 about", e("a", "d", 0), e("b", "c", 1), []api.Elision{e("a", "b", 0), e("b", "c", 1), e("c", "d", 0)}},
	} {
		lists(t, c.name, setOf(t, c.a, c.b), c.want...)
		lists(t, c.name+", turned", setOf(t, c.b, c.a), c.want...)
		s := setOf(t, c.a)
		add(t, s, c.b)
		lists(t, c.name+", added", s, c.want...)
		s = setOf(t, c.b)
		add(t, s, c.a)
		lists(t, c.name+", turned, added", s, c.want...)
	}
}

func TestP1203OneMoreOverMany(t *testing.T) {
	many := []api.Elision{e("b", "c", 3), e("d", "e", 5), e("e", "f", 4), e("g", "h", 3), e("j", "k", 9)}
	for _, c := range []struct {
		name string
		more api.Elision
		want []api.Elision
	}{
		{"over all, elder", e("a", "z", 1), []api.Elision{
			e("a", "b", 1), e("b", "c", 3), e("c", "d", 1), e("d", "e", 5), e("e", "f", 4), e("f", "g", 1), e("g", "h", 3), e("h", "j", 1), e("j", "k", 9), e("k", "z", 1)}},
		{"over all, amid", e("a", "z", 4), []api.Elision{e("a", "d", 4), e("d", "e", 5), e("e", "j", 4), e("j", "k", 9), e("k", "z", 4)}},
		{"over all, newer", e("", "zz", 10), []api.Elision{e("", "zz", 10)}},
		{"fills a gap", e("c", "d", 3), []api.Elision{e("b", "d", 3), e("d", "e", 5), e("e", "f", 4), e("g", "h", 3), e("j", "k", 9)}},
		{"fills a gap on both sides", e("f", "g", 3), []api.Elision{e("b", "c", 3), e("d", "e", 5), e("e", "f", 4), e("f", "h", 3), e("j", "k", 9)}},
		{"from inside one into another", e("dd", "gg", 4), []api.Elision{e("b", "c", 3), e("d", "e", 5), e("e", "gg", 4), e("gg", "h", 3), e("j", "k", 9)}},
		{"joins what lies apart", e("c", "g", 3), []api.Elision{e("b", "d", 3), e("d", "e", 5), e("e", "f", 4), e("f", "h", 3), e("j", "k", 9)}},
		{"behind all", e("k", "l", 9), []api.Elision{e("b", "c", 3), e("d", "e", 5), e("e", "f", 4), e("g", "h", 3), e("j", "l", 9)}},
		{"ahead of all", e("", "b", 2), slices.Insert(slices.Clone(many), 0, e("", "b", 2))},
		{"hidden", e("dx", "ex", 4), many},
	} {
		s := setOf(t, many...)
		add(t, s, c.more)
		lists(t, c.name, s, c.want...)
		lists(t, c.name+", at once", setOf(t, slices.Insert(slices.Clone(many), 2, c.more)...), c.want...)
	}
}

func TestP1203ManyLayers(t *testing.T) {
	const n = 20
	var l, want []api.Elision
	left, right := func(i int) string { return string(rune('a' + i)) }, func(i int) string { return "z" + string(rune('z'-i)) }
	for i := range n { // each one inside the one ahead of it, and newer
		l = append(l, e(left(i), right(i), uint64(i)))
		want = append(want, e(left(i), left(i+1), uint64(i)))
	}
	want[n-1].Hi = right(n - 1)
	for i := n - 2; i >= 0; i-- {
		want = append(want, e(right(i+1), right(i), uint64(i)))
	}
	lists(t, "rising", setOf(t, l...), want...)
	slices.Reverse(l)
	lists(t, "falling", setOf(t, l...), want...)
}

func TestP1203Compare(t *testing.T) {
	l := []api.Elision{
		{}, e("", "", 1), e("", "\x00", 0), e("", "b", 0), e("a", "", 9), e("a", "a", 0), e("a", "b", 0), e("a", "b", 1),
		e("a", "b", math.MaxUint64), e("a", "b\x00", 0), e("a", "c", 0), e("a\x00", "a", 0), e("b", "a", 0), e("\x7f", "", 0), e("\x80", "", 0), e("\xff", "", 0),
	}
	for i, a := range l {
		for j, b := range l {
			want := 0
			if i < j {
				want = -1
			} else if i > j {
				want = 1
			}
			if got := elide.Compare(a, b); got != want {
				t.Errorf("Compare(%#v, %#v): %d; want %d", a, b, got, want)
			}
		}
	}
}

func TestP1203ListIsByCompare(t *testing.T) {
	r := source(12, 4)
	for range 200 {
		l := setOf(t, elisions(r, 20)...).List()
		for i, x := range l {
			if elide.Check(x) != api.OK || i > 0 && elide.Compare(l[i-1], x) != -1 {
				t.Fatalf("%v", l)
			}
		}
	}
}

func TestP1203Over(t *testing.T) {
	l := []api.Elision{e("b", "d", 5), e("d", "f", 3), e("h", "k", 0)}
	s := setOf(t, l...)
	for _, c := range []struct {
		lo, hi string
		want   []api.Elision
	}{
		{"", "z", l},
		{"b", "k", l},
		{"c", "i", l}, // told whole, not cut
		{"", "b", nil},
		{"", "b\x00", l[:1]},
		{"a", "c", l[:1]},
		{"b", "d", l[:1]},
		{"b", "d\x00", l[:2]},
		{"c", "c\x00", l[:1]},
		{"c\xff", "d", l[:1]},
		{"d", "e", l[1:2]},
		{"e", "h", l[1:2]},
		{"e", "h\x00", l[1:]},
		{"f", "h", nil},
		{"f", "k", l[2:]},
		{"j\xff", "\xff", l[2:]},
		{"k", "z", nil},
		{"z", "zz", nil},
		{"", "", nil},
		{"c", "c", nil}, // no key
		{"b", "b", nil},
		{"i", "c", nil},
		{"z", "", nil},
		{"e", "d", nil},
	} {
		if got := s.Over(c.lo, c.hi); !slices.Equal(got, c.want) {
			t.Errorf("Over(%q, %q): %v; want %v", c.lo, c.hi, got, c.want)
		}
	}
	if got := setOf(t).Over("", "z"); len(got) != 0 {
		t.Errorf("over none: %v", got)
	}
}

func TestP1204Forget(t *testing.T) {
	l := []api.Elision{e("a", "b", 0), e("b", "d", 5), e("d", "f", 3), e("h", "k", 5), e("m", "n", math.MaxUint64)}
	for _, c := range []struct {
		up   uint64
		want []int
	}{
		{0, []int{1, 2, 3, 4}},
		{2, []int{1, 2, 3, 4}},
		{3, []int{1, 3, 4}},
		{4, []int{1, 3, 4}},
		{5, []int{4}},
		{math.MaxUint64 - 1, []int{4}},
		{math.MaxUint64, nil},
	} {
		s := setOf(t, l...)
		var want []api.Elision
		for _, i := range c.want {
			want = append(want, l[i])
		}
		if n := s.Forget(c.up); n != len(l)-len(want) {
			t.Errorf("Forget(%d): %d; want %d", c.up, n, len(l)-len(want))
		}
		lists(t, "left", s, want...)
		if n := s.Forget(c.up); n != 0 {
			t.Errorf("Forget(%d) again: %d", c.up, n)
		}
		lists(t, "left behind another one", s, want...)
	}
	if n := setOf(t).Forget(math.MaxUint64); n != 0 {
		t.Errorf("of none: %d", n)
	}
}

// What lies beneath an elision of List goes with it, and does not come to light; nor does what was hidden by one that stays.
func TestP1204ForgetOfLayers(t *testing.T) {
	s := setOf(t, e("a", "m", 5), e("c", "f", 9), e("d", "e", 2))
	if n := s.Forget(4); n != 0 {
		t.Errorf("what was hidden is counted: %d", n)
	}
	if n := s.Forget(5); n != 2 {
		t.Errorf("%d; want 2", n)
	}
	lists(t, "one is left", s, e("c", "f", 9))
	if s.Has("b", 0) || s.Has("f", 0) || !s.Has("d", 9) {
		t.Error("facts are not elided as List tells")
	}
	if n := s.Forget(9); n != 1 || s.Has("d", 0) {
		t.Errorf("%d; want 1", n)
	}
	lists(t, "none is left", s)
}

func TestP1204AddBehindForget(t *testing.T) {
	s := setOf(t, e("a", "c", 5), e("c", "e", 2), e("e", "g", 5))
	s.Forget(2)
	lists(t, "a gap", s, e("a", "c", 5), e("e", "g", 5))
	add(t, s, e("b", "f", 1))
	lists(t, "filled by an elder one", s, e("a", "c", 5), e("c", "e", 1), e("e", "g", 5))
	add(t, s, e("c", "e", 5))
	lists(t, "filled", s, e("a", "g", 5))
	if n := s.Forget(5); n != 1 || s.Has("a", 0) {
		t.Errorf("%d; want 1", n)
	}
}

func TestP1205NumberZero(t *testing.T) {
	s := setOf(t, e("a", "b", 0))
	lists(t, "number 0", s, e("a", "b", 0))
	if !s.Has("a", 0) || s.Has("a", 1) {
		t.Error("it does not elide facts of Seq 0 alone")
	}
	if _, ok := s.Newest(f("a", 0, "x")); ok {
		t.Error("a fact of Seq 0 is not elided")
	}
	if got := s.Over("a", "b"); !slices.Equal(got, s.List()) {
		t.Errorf("Over: %v", got)
	}
	if n := s.Forget(0); n != 1 {
		t.Errorf("%d; want 1", n)
	}
}

// So many that a set which went through all of them for each one would not end soon.
func TestP1205ManyElisions(t *testing.T) {
	const n = 1 << 16
	name := func(i int) string { return string([]byte{byte(i >> 16), byte(i >> 8), byte(i)}) }
	var layers, apart []api.Elision
	for i := range n {
		layers = append(layers, e(name(i), name(n+i), uint64(i%7)))
		apart = append(apart, e(name(2*i), name(2*i+1), uint64(i)))
	}
	s := setOf(t, layers...)
	for i := range n {
		if most := uint64(min(i, 6)); !s.Has(name(i), most) || s.Has(name(i), most+1) {
			t.Fatalf("key %d is not elided up to %d", i, most)
		}
	}
	s = setOf(t, apart...)
	lists(t, "apart", s, apart...)
	add(t, s, e(name(0), name(2*n), 400))
	if s.Len() != 2*(n-401)+1 {
		t.Errorf("%d elisions; want %d", s.Len(), 2*(n-401)+1)
	}
	if got := s.Forget(400); got != n-400 || s.Len() != n-401 {
		t.Errorf("%d; want %d", got, n-400)
	}
}
