package pyramid

import (
	"math"
	"slices"

	"flint/api"
	"flint/fact"
)

// pending has the facts that were put since the last Flush, in lists in order; a list's facts are all newer
// than those of the lists ahead of it. Each list is longer than the next one, so that there are few of them,
// and no fact is moved often.
type pending [][]api.Fact

// with tells the facts with one more, whose Seq is above theirs.
func (p pending) with(f api.Fact) pending {
	list := []api.Fact{f}
	n := len(p)
	for n > 0 && len(p[n-1]) <= len(list) {
		n--
		list = both(p[n], list)
	}
	return append(p[:n], list)
}

// both tells the facts of two lists in order as one.
func both(a, b []api.Fact) []api.Fact {
	all := make([]api.Fact, 0, len(a)+len(b))
	for len(a) > 0 && len(b) > 0 {
		if fact.Compare(b[0], a[0]) < 0 {
			a, b = b, a
		}
		all, a = append(all, a[0]), a[1:]
	}
	all = append(all, a...)
	return append(all, b...)
}

// newest tells a key's newest fact: that of the last list which has one.
func (p pending) newest(key string) (api.Fact, bool) {
	for _, l := range slices.Backward(p) {
		if i := place(l, key); i < len(l) && l[i].Key == key {
			return l[i], true
		}
	}
	return api.Fact{}, false
}

func (p pending) count() int {
	n := 0
	for _, l := range p {
		n += len(l)
	}
	return n
}

// within tells the facts of keys from lo on, below hi, of a list in order.
func within(l []api.Fact, lo, hi string) []api.Fact {
	return l[place(l, lo):place(l, hi)]
}

// place tells where in a list in order the facts of keys from key on begin.
func place(l []api.Fact, key string) int {
	ahead := api.Fact{Key: key, Seq: math.MaxUint64} // no fact of key stands ahead of it
	i, _ := slices.BinarySearchFunc(l, ahead, fact.Compare)
	return i
}
