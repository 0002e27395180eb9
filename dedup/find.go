package dedup

import (
	"bytes"

	"flint/api"
	"flint/sha"
)

// Find tells where b's bytes are, if there is a hint of that and r bears it out.
func (x *Index) Find(r Reader, b []byte) (api.Addr, bool) {
	a, ok := x.Hint(sha.Sum(b))
	if !ok {
		x.misses++
		return api.Addr{}, false
	}
	if !tells(sized{r, len(b)}, a, b) {
		x.lies++
		return api.Addr{}, false
	}
	x.hits++
	return a, true
}

// Hits tells how often Find told true, had no hint, and had one that was not borne out.
func (x *Index) Hits() (hits, misses, lies int) {
	return x.hits, x.misses, x.lies
}

// A chooser is a reader that can tell more: which addresses it need not be asked for. (may is not exported, so no reader from elsewhere is taken for one.)
type chooser interface {
	may(a api.Addr) bool
}

// sized is a reader that is asked for so many bytes alone.
type sized struct {
	Reader
	n int
}

func (s sized) may(a api.Addr) bool { return a.N == s.n }

// tells says whether r tells just b at a.
func tells(r Reader, a api.Addr, b []byte) bool {
	if c, ok := r.(chooser); ok {
		if !c.may(a) {
			return false
		}
	}
	got, e := r.Get(a)
	return e == api.OK && bytes.Equal(got, b)
}
