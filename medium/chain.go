package medium

// Chain, Deep, Dead look at which mediums lie upon which.
func (t *Table) Chain(id uint64, block int) []Place {
	var places []Place
	for block >= 0 {
		r, ok := t.rows[id]
		if !ok || block >= r.Size {
			break
		}
		places = append(places, Place{id, block})
		id, block = r.Target, block+r.At
	}
	return places
}

func (t *Table) Deep(id uint64) int {
	n := 0
	for r, ok := t.rows[id]; ok; r, ok = t.rows[r.Target] {
		n++
	}
	return n
}

func (t *Table) Dead(roots ...uint64) []uint64 {
	alive := map[uint64]struct{}{}
chains:
	for _, id := range roots {
		for r, ok := t.rows[id]; ok; r, ok = t.rows[r.Target] {
			if _, met := alive[r.Id]; met {
				continue chains // what is beneath was met, too
			}
			alive[r.Id] = struct{}{}
		}
	}
	var dead []uint64
	for _, id := range t.ids() {
		if _, ok := alive[id]; !ok {
			dead = append(dead, id)
		}
	}
	return dead
}
