package fact_test

import (
	"math"
	"slices"
	"testing"

	"flint/api"
	"flint/fact"
)

// rising tells facts, each of which stands behind all that are ahead of it.
func rising() []api.Fact {
	return []api.Fact{
		f("", math.MaxUint64, ""),
		f("", 0, "x"),
		f("\x00", 1, ""),
		f("\x00\x00", 9, ""),
		f("A", 7, ""),
		f("Z", 7, ""),
		f("a", math.MaxUint64, ""),
		f("a", 1<<63, ""),
		f("a", 1<<63-1, ""),
		f("a", 2, ""),
		f("a", 1, "b"),
		f("a", 0, "a"),
		f("a\x00", 5, ""),
		f("aa", 6, ""),
		f("b", 0, ""),
		f("\x7f", 3, ""),
		f("\x80", 3, ""),
		f("é", 3, ""),
		f("\xff", 4, ""),
		f("\xff\xff", 4, ""),
	}
}

func TestP1101Compare(t *testing.T) {
	l := rising()
	for i, a := range l {
		for j, b := range l {
			want := 0
			if i < j {
				want = -1
			} else if i > j {
				want = 1
			}
			if n := fact.Compare(a, b); n != want {
				t.Errorf("%q %d, %q %d: %d; want %d", a.Key, a.Seq, b.Key, b.Seq, n, want)
			}
		}
	}
}

func TestP1101ComparePassesValuesOver(t *testing.T) {
	for _, v := range []string{"", "a", "b", "ab"} {
		for _, w := range []string{"", "a", "b", "ab"} {
			if n := fact.Compare(f("k", 3, v), f("k", 3, w)); n != 0 {
				t.Errorf("%q, %q: %d; want 0", v, w, n)
			}
		}
	}
}

func TestP1101Right(t *testing.T) {
	for _, c := range []struct {
		name string
		l    []api.Fact
		want bool
	}{
		{"none", nil, true},
		{"empty", []api.Fact{}, true},
		{"one", []api.Fact{f("a", 1, "")}, true},
		{"many", rising(), true},
		{"keys rise, numbers too", []api.Fact{f("a", 1, ""), f("b", 2, "")}, true},
		{"of a key numbers fall", []api.Fact{f("a", 2, ""), f("a", 1, "")}, true},
		{"of a key numbers rise", []api.Fact{f("a", 1, ""), f("a", 2, "")}, false},
		{"one twice", []api.Fact{f("a", 1, ""), f("a", 1, "")}, false},
		{"one twice, with other values", []api.Fact{f("a", 1, "x"), f("a", 1, "y")}, false},
		{"keys fall", []api.Fact{f("b", 1, ""), f("a", 1, "")}, false},
		{"keys fall, numbers too", []api.Fact{f("b", 2, ""), f("a", 1, "")}, false},
	} {
		if is := fact.Right(c.l); is != c.want {
			t.Errorf("%s: %v; want %v", c.name, is, c.want)
		}
	}
}

func TestP1101RightAsksEachPair(t *testing.T) {
	for i := range len(rising()) - 1 {
		l := rising()
		l[i], l[i+1] = l[i+1], l[i]
		if fact.Right(l) {
			t.Errorf("%d and the next one changed about: true", i)
		}
		l[i] = l[i+1]
		if fact.Right(l) {
			t.Errorf("%d twice: true", i)
		}
	}
}

func TestP1101Merge(t *testing.T) {
	a, b, c := f("a", 1, "1"), f("b", 2, "2"), f("c", 3, "3")
	other := f("b", 2, "other")
	third := f("b", 2, "third")
	newer := f("b", 9, "newer")
	for _, x := range []struct {
		name  string
		lists [][]api.Fact
		want  []api.Fact
	}{
		{"no list", nil, nil},
		{"an empty one", [][]api.Fact{nil}, nil},
		{"empty ones", [][]api.Fact{nil, {}, nil}, nil},
		{"one", [][]api.Fact{{a, b, c}}, []api.Fact{a, b, c}},
		{"one among empty ones", [][]api.Fact{nil, {a, b, c}, {}, nil}, []api.Fact{a, b, c}},
		{"one behind the other", [][]api.Fact{{a, b}, {c}}, []api.Fact{a, b, c}},
		{"one ahead of the other", [][]api.Fact{{c}, {a, b}}, []api.Fact{a, b, c}},
		{"one within the other", [][]api.Fact{{a, c}, {b}}, []api.Fact{a, b, c}},
		{"three", [][]api.Fact{{c}, {b}, {a}}, []api.Fact{a, b, c}},
		{"a newer one stands ahead", [][]api.Fact{{b}, {newer}}, []api.Fact{newer, b}},
		{"the first list's", [][]api.Fact{{b}, {other}, {third}}, []api.Fact{b}},
		{"the first list's, with others", [][]api.Fact{{a, other}, {b, c}}, []api.Fact{a, other, c}},
		{"the first list's that has one", [][]api.Fact{{a}, {}, {third, c}, {other}, {b}}, []api.Fact{a, third, c}},
		{"a list twice", [][]api.Fact{{a, b, c}, {a, b, c}}, []api.Fact{a, b, c}},
	} {
		if l, e := fact.Merge(x.lists...); e != api.OK || !equal(l, x.want) {
			t.Errorf("%s: %v, %v; want %v", x.name, l, e, x.want)
		}
	}
}

func TestP1101MergeErrors(t *testing.T) {
	a, b := f("a", 1, "1"), f("b", 2, "2")
	for _, c := range []struct {
		name  string
		lists [][]api.Fact
	}{
		{"one alone", [][]api.Fact{{b, a}}},
		{"the first", [][]api.Fact{{b, a}, {a, b}}},
		{"the last", [][]api.Fact{{a}, {b}, {}, {b, a}}},
		{"one in the middle", [][]api.Fact{{a}, {b, a}, {b}}},
		{"a fact twice in one list", [][]api.Fact{{a, b}, {b, b}}},
		{"a newer one behind", [][]api.Fact{{a}, {f("a", 1, ""), f("a", 2, "")}}},
	} {
		if l, e := fact.Merge(c.lists...); len(l) != 0 || e != api.ErrOrder {
			t.Errorf("%s: %d facts, %v; want order", c.name, len(l), e)
		}
	}
}

// plainMerge tells all facts, each as the first list has it, and then puts them in order.
func plainMerge(lists [][]api.Fact) []api.Fact {
	var all []api.Fact
	for _, l := range lists {
		for _, x := range l {
			if !slices.ContainsFunc(all, func(y api.Fact) bool { return order(x, y) == 0 }) {
				all = append(all, x)
			}
		}
	}
	slices.SortFunc(all, order)
	return all
}

func TestP1101MergeOfRandomLists(t *testing.T) {
	r := source(11, 1)
	for step := range 500 {
		var lists [][]api.Fact
		for range r.IntN(8) {
			lists = append(lists, noise(r, r.IntN(40)))
		}
		l, e := fact.Merge(lists...)
		if want := plainMerge(lists); e != api.OK || !equal(l, want) || !fact.Right(l) {
			t.Fatalf("step %d: %v, %v; want %v", step, l, e, want)
		}
	}
}
