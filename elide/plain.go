package elide

import (
	"cmp"
	"slices"
	"sort"

	"flint/api"
)

// A plain list is what List tells: stretches side by side, by Lo, of which two that touch have unlike Seqs.

// count tells how many stretches are ahead of the first one that is not so; none behind that one may be so.
func (s *Set) count(so func(api.Elision) bool) int {
	return sort.Search(len(s.plain), func(i int) bool { return !so(s.plain[i]) })
}

// madePlain goes by halves, so that no stretch is parted more often than the list can be halved.
func madePlain(l []api.Elision) []api.Elision {
	if len(l) < 2 {
		return slices.Clone(l)
	}
	half := len(l) / 2
	return both(madePlain(l[:half]), madePlain(l[half:]))
}

// both tells two plain lists as one. An elision that is as the zero value stands for none, since it may not be.
func both(a, b []api.Elision) []api.Elision {
	var out []api.Elision
	restA, restB := walk(a), walk(b)
	for at := ""; ; {
		e := front(restA(at), restB(at))
		if e == (api.Elision{}) {
			return out
		}
		out = joined(out, e)
		at = e.Hi
	}
}

// walk tells what goes through a plain list once: asked for keys that do not fall, it tells the first stretch
// that does not end ahead of the key, or at it, less the keys below that one; or none.
func walk(l []api.Elision) func(key string) api.Elision {
	return func(key string) api.Elision {
		for len(l) > 0 && l[0].Hi <= key {
			l = l[1:]
		}
		if len(l) == 0 {
			return api.Elision{}
		}
		e := l[0]
		e.Lo = max(e.Lo, key)
		return e
	}
}

// front tells the first piece of two stretches laid upon each other, either of which may be none.
func front(a, b api.Elision) api.Elision {
	none := api.Elision{}
	if a == none || b == none {
		return cmp.Or(a, b)
	}
	if b.Lo < a.Lo {
		a, b = b, a
	}
	if a.Lo < b.Lo {
		return api.Elision{Lo: a.Lo, Hi: min(a.Hi, b.Lo), Seq: a.Seq}
	}
	return api.Elision{Lo: a.Lo, Hi: min(a.Hi, b.Hi), Seq: max(a.Seq, b.Seq)}
}

// joined tells a plain list with one more stretch behind it.
func joined(l []api.Elision, e api.Elision) []api.Elision {
	last := len(l) - 1
	if last >= 0 && l[last].Hi == e.Lo && l[last].Seq == e.Seq {
		l[last].Hi = e.Hi
		return l
	}
	return append(l, e)
}
