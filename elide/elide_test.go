package elide_test

import (
	"math"
	"slices"
	"testing"

	"flint/api"
	"flint/elide"
)

func TestP1201Check(t *testing.T) {
	for _, c := range []struct {
		lo, hi string
		want   api.Errno
	}{
		{"a", "b", api.OK},
		{"", "a", api.OK},
		{"", "\x00", api.OK},
		{"k", "k\x00", api.OK},
		{"k", "ka", api.OK},
		{"ka", "l", api.OK},
		{"\x7f", "\x80", api.OK}, // bytes are not signed
		{"\xff", "\xff\x00", api.OK},
		{"é", "\xff", api.OK},
		{"", "", api.ErrArg},
		{"a", "a", api.ErrArg},
		{"b", "a", api.ErrArg},
		{"a", "", api.ErrArg},
		{"\x00", "", api.ErrArg},
		{"k\x00", "k", api.ErrArg},
		{"ka", "k", api.ErrArg},
		{"\x80", "\x7f", api.ErrArg},
		{"\xff\xff", "\xff", api.ErrArg},
	} {
		for _, seq := range []uint64{0, 1, math.MaxUint64} {
			x := e(c.lo, c.hi, seq)
			if got := elide.Check(x); got != c.want {
				t.Errorf("Check(%#v): %v; want %v", x, got, c.want)
			}
			s, got := elide.New(x)
			if got != c.want || (s == nil) != (c.want != api.OK) {
				t.Errorf("New(%#v): %v; want %v", x, got, c.want)
			}
			s = setOf(t)
			if got := s.Add(x); got != c.want || (s.Len() == 1) != (c.want == api.OK) {
				t.Errorf("Add(%#v): %v, and then %d; want %v", x, got, s.Len(), c.want)
			}
		}
	}
}

func TestP1201New(t *testing.T) {
	lists(t, "of none", setOf(t))
	lists(t, "of an empty list", setOf(t, []api.Elision{}...))
	lists(t, "of one", setOf(t, e("a", "c", 5)), e("a", "c", 5))
	lists(t, "of two", setOf(t, e("c", "d", 5), e("a", "b", 4)), e("a", "b", 4), e("c", "d", 5))
	for _, bad := range []api.Elision{{}, e("b", "b", 3), e("c", "b", 3), e("a", "", 0)} {
		for i := range 4 {
			l := slices.Insert([]api.Elision{e("a", "b", 1), e("c", "d", 1), e("b", "c", 2)}, i, bad)
			if s, err := elide.New(l...); s != nil || err != api.ErrArg {
				t.Errorf("with %#v at %d: %v", bad, i, err)
			}
		}
	}
}

func TestP1201Add(t *testing.T) {
	s := setOf(t, e("b", "c", 1))
	add(t, s, e("c", "e", 2), e("x", "y", 7), e("a", "b", 3))
	want := []api.Elision{e("a", "b", 3), e("b", "c", 1), e("c", "e", 2), e("x", "y", 7)}
	lists(t, "four", s, want...)
	for _, bad := range []api.Elision{{}, {Seq: 9}, e("b", "b", 9), e("z", "a", 9), e("b\x00", "b", 9)} {
		if err := s.Add(bad); err != api.ErrArg {
			t.Errorf("Add(%#v): %v; want arg", bad, err)
		}
		lists(t, "behind an error", s, want...)
	}
}

func TestP1201ASingleKey(t *testing.T) {
	for _, k := range []string{"", "k", "k\x00", "k\xff", "\x00", "\xff"} {
		s := setOf(t, e(k, k+"\x00", 5))
		if !s.Has(k, 5) || s.Has(k+"\x00", 0) || s.Has(k+"a", 0) {
			t.Errorf("%q is not elided alone", k)
		}
		if k != "" && (s.Has("", 0) || s.Has(k[:len(k)-1], 0)) {
			t.Errorf("keys ahead of %q are elided", k)
		}
	}
}

func TestP1202Has(t *testing.T) {
	s := setOf(t, e("b", "d", 5), e("c", "f", 3), e("m", "n", 0), e("x", "y", math.MaxUint64))
	for _, c := range []struct {
		key  string
		most uint64 // that is elided
		some bool
	}{
		{"", 0, false}, {"a", 0, false}, {"a\xff", 0, false},
		{"b", 5, true}, {"b\x00", 5, true}, {"c", 5, true}, {"c\xff\xff", 5, true},
		{"d", 3, true}, {"e", 3, true}, {"e\xff", 3, true},
		{"f", 0, false}, {"g", 0, false}, {"l", 0, false},
		{"m", 0, true}, {"m\x00", 0, true}, {"n", 0, false},
		{"x", math.MaxUint64, true}, {"x\xff", math.MaxUint64, true},
		{"y", 0, false}, {"z", 0, false}, {"\xff", 0, false},
	} {
		for _, seq := range []uint64{0, 1, 2, 3, 4, 5, 6, math.MaxUint64 - 1, math.MaxUint64} {
			if got, want := s.Has(c.key, seq), c.some && seq <= c.most; got != want {
				t.Errorf("Has(%q, %d): %v", c.key, seq, got)
			}
		}
	}
	if none := setOf(t); none.Has("", 0) || none.Has("a", 1) {
		t.Error("a set of none elides")
	}
}

// newest asks what Newest tells: the fact want, or, without a Key, nothing.
func newest(t *testing.T, what string, s *elide.Set, want api.Fact, l ...api.Fact) {
	t.Helper()
	got, ok := s.Newest(l...)
	if !same(got, want) || ok != (want.Key != "") {
		t.Errorf("%s: %v, %v; want %v", what, got, ok, want)
	}
}

func TestP1202Newest(t *testing.T) {
	s := setOf(t, e("b", "d", 5))
	nothing := api.Fact{}
	newest(t, "none", s, nothing)
	newest(t, "an empty list", s, nothing, []api.Fact{}...)
	newest(t, "one", s, f("a", 0, "x"), f("a", 0, "x"))
	newest(t, "one that is elided", s, nothing, f("b", 5, "x"))
	newest(t, "one that is newer", s, f("b", 6, "x"), f("b", 6, "x"))
	newest(t, "the first", s, f("b", 9, "x"), f("b", 9, "x"), f("b", 8, "y"), f("b", 1, "z"))
	newest(t, "the last", s, f("b", 9, "x"), f("b", 1, "z"), f("b", 8, "y"), f("b", 9, "x"))
	newest(t, "the one amid", s, f("a", 9, "x"), f("a", 1, "z"), f("a", 9, "x"), f("a", 8, "y"))
	newest(t, "of several the first", s, f("a", 9, "x"), f("a", 8, "w"), f("a", 9, "x"), f("a", 9, "y"))
	newest(t, "all elided", s, nothing, f("b", 3, "x"), f("b", 5, "y"), f("b", 4, "z"))
	newest(t, "the greatest numbers", s, f("c", math.MaxUint64, "x"), f("c", 1, "y"), f("c", math.MaxUint64, "x"), f("c", math.MaxUint64-1, "z"))
	newest(t, "without a set", setOf(t), f("b", 0, ""), f("b", 0, ""))
}

// Facts of unlike keys: that of the greatest Seq is asked about by its own key.
func TestP1202NewestOfUnlikeKeys(t *testing.T) {
	s := setOf(t, e("b", "c", 5))
	newest(t, "elided", s, api.Fact{}, f("a", 4, "x"), f("b", 5, "y"))
	newest(t, "not elided", s, f("a", 5, "x"), f("b", 4, "y"), f("a", 5, "x"))
	newest(t, "of several the first", s, f("a", 5, "x"), f("a", 5, "x"), f("b", 5, "y"))
	newest(t, "of several the first, elided", s, api.Fact{}, f("b", 5, "y"), f("a", 5, "x"))
}

// An elision that has the newest fact hides the elder ones with it; one that has elder ones alone changes nothing.
func TestP1202AnElidedNewestHidesElderOnes(t *testing.T) {
	l := []api.Fact{f("k", 7, "new"), f("k", 3, "old")}
	for _, seq := range []uint64{0, 2, 3, 4, 6, 7, 8, math.MaxUint64} {
		s := setOf(t, e("k", "l", seq))
		var want []api.Fact
		if seq < 7 {
			want = l[:1]
		}
		if x, ok := s.Newest(l...); ok != (seq < 7) || ok && !same(x, l[0]) {
			t.Errorf("elided up to %d: %v, %v", seq, x, ok)
		}
		if all, err := s.Filter(l); err != api.OK || !slices.EqualFunc(all, want, same) {
			t.Errorf("elided up to %d: %v, %v; want %v", seq, all, err, want)
		}
	}
}

func TestP1202Filter(t *testing.T) {
	l := []api.Fact{
		f("", 0, "1"), f("a", 9, "2"), f("a", 8, "3"), f("a", 0, "4"), f("a\x00", 3, "5"), f("b", 5, "6"), f("b", 1, "7"),
		f("c", 6, "8"), f("c", 5, "9"), f("d", 5, ""), f("e", 0, "10"), f("e\xff", math.MaxUint64, "11"),
	}
	for _, c := range []struct {
		name string
		set  []api.Elision
		want []int
	}{
		{"no elisions", nil, []int{0, 1, 4, 5, 7, 9, 10, 11}},
		{"some", []api.Elision{e("b", "d", 5), e("e", "f", 9)}, []int{0, 1, 4, 7, 9, 11}},
		{"one key", []api.Elision{e("a", "a\x00", 9)}, []int{0, 4, 5, 7, 9, 10, 11}},
		{"elder ones alone", []api.Elision{e("a", "a\x00", 8), e("c", "d", 5)}, []int{0, 1, 4, 5, 7, 9, 10, 11}},
		{"number 0", []api.Elision{e("", "z", 0)}, []int{1, 4, 5, 7, 9, 11}},
		{"all but one", []api.Elision{e("", "z", math.MaxUint64-1)}, []int{11}},
		{"all", []api.Elision{e("", "z", math.MaxUint64)}, nil},
	} {
		var want []api.Fact
		for _, i := range c.want {
			want = append(want, l[i])
		}
		got, err := setOf(t, c.set...).Filter(l)
		if err != api.OK || !slices.EqualFunc(got, want, same) {
			t.Errorf("%s: %v, %v; want %v", c.name, got, err, want)
		}
	}
	for _, none := range [][]api.Fact{nil, {}} {
		if got, err := setOf(t, e("a", "b", 1)).Filter(none); len(got) != 0 || err != api.OK {
			t.Errorf("of no facts: %v, %v", got, err)
		}
	}
}

func TestP1202FilterOutOfOrder(t *testing.T) {
	for _, l := range [][]api.Fact{
		{f("b", 1, ""), f("a", 1, "")},
		{f("a", 1, ""), f("a", 2, "")},
		{f("a", 1, "x"), f("a", 1, "y")},
		{f("a", 3, ""), f("a", 2, ""), f("b", 1, ""), f("b", 1, "")},
		{f("x", 3, ""), f("y", 2, ""), f("y", 1, ""), f("xx", 1, "")},
	} {
		for _, s := range []*elide.Set{setOf(t), setOf(t, e("", "z", 9))} {
			if got, err := s.Filter(l); len(got) != 0 || err != api.ErrOrder {
				t.Errorf("%v: %v, %v; want order", l, got, err)
			}
		}
	}
}
