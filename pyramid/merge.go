package pyramid

import (
	"iter"
	"slices"

	"flint/api"
	"flint/fact"
)

const (
	block     = 4096    // bytes that a table's blocks have at least
	mostFacts = 1 << 20 // of a table
	mostGone  = 64      // elisions that call for no merge of all patches
)

// Flush, Merge work behind the scenes.
func (p *Pyramid) Flush() api.Errno {
	l, e := fact.Merge(p.fresh...)
	if e != api.OK {
		return e
	}
	var made []Patch
	for part := range slices.Chunk(l, mostFacts) { // one patch, if they all fit into a table
		x, e := p.lay(part, 0)
		if e != api.OK {
			return e
		}
		made = append(made, x)
	}
	p.patches = inOrder(p.patches, made)
	p.fresh = nil
	return api.OK
}

func (p *Pyramid) Merge() (bool, api.Errno) {
	from, to, level := p.due()
	if from == to {
		return false, api.OK
	}
	var read []any
	for _, x := range p.patches[from:to] {
		read = append(read, p.read(x, (*fact.Table).All))
	}
	l, e := p.merged(read)
	if e != api.OK {
		return false, e
	}
	var made []Patch
	if len(l) > 0 {
		x, e := p.lay(l, level)
		if e != api.OK {
			return false, e
		}
		made = append(made, x)
	}
	all := to-from == len(p.patches)
	p.patches = inOrder(p.patches[:from], p.patches[to:], made)
	if all && p.Pending() == 0 { // no fact is left that an elision could be of
		p.gone.Forget(p.seq)
	}
	return true, api.OK
}

// due tells which patches are to be made one, from one place on up to another, and of which level that one is.
func (p *Pyramid) due() (from, to, level int) {
	for to < len(p.patches) {
		from, level = to, p.patches[to].Level
		for to < len(p.patches) && p.patches[to].Level == level {
			to++
		}
		if to-from >= p.fan {
			return from, to, min(level+1, topLevel) // no State has a level above the top one
		}
	}
	if p.gone.Len() > mostGone {
		return 0, to, level
	}
	return 0, 0, 0
}

// lay puts facts, one at least, into the Keep as a patch.
func (p *Pyramid) lay(l []api.Fact, level int) (Patch, api.Errno) {
	if p.keep == nil { // neither New nor Load made this pyramid
		return Patch{}, api.ErrArg
	}
	b, e := fact.Build(l, block)
	if e != api.OK {
		return Patch{}, e
	}
	at, e := p.keep.Put(b)
	if e != api.OK {
		return Patch{}, e
	}
	x := Patch{At: at, Level: level, Lo: l[0].Seq, Hi: l[0].Seq}
	for _, f := range l {
		x.Lo, x.Hi = min(x.Lo, f.Seq), max(x.Hi, f.Seq)
	}
	return x, api.OK
}

// table reads a patch.
func (p *Pyramid) table(x Patch) (*fact.Table, api.Errno) {
	b, e := p.keep.Get(x.At)
	if e != api.OK {
		return nil, e
	}
	t, e := fact.Open(b)
	if e != api.OK {
		return nil, api.ErrForm
	}
	return t, api.OK
}

// read tells a list of facts of a patch, or an error that stands in its place.
func (p *Pyramid) read(x Patch, of func(*fact.Table) iter.Seq[api.Fact]) any {
	t, e := p.table(x)
	if e != api.OK {
		return e
	}
	return slices.Collect(of(t))
}

// merged tells each key's newest fact of those that were read, if it is not elided.
func (p *Pyramid) merged(read []any) ([]api.Fact, api.Errno) {
	lists, e := taken(read)
	if e != api.OK {
		return nil, e
	}
	l, e := fact.Merge(lists...)
	if e != api.OK {
		return nil, e
	}
	return p.gone.Filter(l)
}

// taken takes what was read for lists of facts. At an error in the place of one this panics; the error is told then.
func taken(read []any) (lists [][]api.Fact, e api.Errno) {
	defer func() {
		if recover() != nil {
			lists, e = nil, read[len(lists)].(api.Errno)
		}
	}()
	for _, x := range read {
		lists = append(lists, x.([]api.Fact))
	}
	return lists, api.OK
}
