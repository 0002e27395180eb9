package fact

import (
	"iter"
	"math"
	"slices"

	"flint/api"
)

// Table is one that was opened.
type Table struct {
	facts []api.Fact // in order; nobody else has them
}

// Get tells a key's newest fact.
func (t *Table) Get(key string) (api.Fact, bool) {
	i := t.place(key)
	if i == len(t.facts) || t.facts[i].Key != key {
		return api.Fact{}, false
	}
	return copied(t.facts[i]), true
}

// All goes over all facts; Range over those of keys from lo on, below hi.
func (t *Table) All() iter.Seq[api.Fact] {
	return over(t.facts)
}

func (t *Table) Range(lo, hi string) iter.Seq[api.Fact] {
	from := t.place(lo)
	return over(t.facts[from:max(from, t.place(hi))])
}

// Len tells how many facts there are.
func (t *Table) Len() int {
	return len(t.facts)
}

// Bounds tells the first and the last Key, the least and the greatest Seq.
func (t *Table) Bounds() (first, last string, lo, hi uint64, some bool) {
	if len(t.facts) == 0 {
		return "", "", 0, 0, false
	}
	lo = math.MaxUint64
	for _, f := range t.facts {
		lo, hi = min(lo, f.Seq), max(hi, f.Seq)
	}
	return t.facts[0].Key, t.facts[len(t.facts)-1].Key, lo, hi, true
}

// place tells where the facts of keys from key on begin.
func (t *Table) place(key string) int {
	ahead := api.Fact{Key: key, Seq: math.MaxUint64} // no fact of key stands ahead of it
	i, _ := slices.BinarySearchFunc(t.facts, ahead, Compare)
	return i
}

// over goes over l; each fact that it tells may be changed.
func over(l []api.Fact) iter.Seq[api.Fact] {
	return func(yield func(api.Fact) bool) {
		for _, f := range l {
			if !yield(copied(f)) {
				return
			}
		}
	}
}
