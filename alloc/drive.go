package alloc

import (
	"cmp"
	"slices"

	"flint/api"
)

// drive is what would take too long to be counted anew for each unit that is taken.
type drive struct {
	count  [Out + 1]int // of its units, state by state
	lowest api.Unit     // of its free ones; past its zones, if it has none
}

// blank tells a drive whose units are free, all of them.
func blank(number, zones int) drive {
	d := drive{lowest: api.Unit{Drive: number}}
	d.count[Free] = zones
	return d
}

// has tells whether there is such a drive.
func (t *Table) has(drive int) bool {
	return drive >= 0 && drive < len(t.drives)
}

// lacks tells whether there is no such unit.
func (t *Table) lacks(u api.Unit) bool {
	return !t.has(u.Drive) || u.Zone < 0 || u.Zone >= t.zones
}

// roomy tells the drives that have a free unit and are not among without, those that have the most ahead.
func (t *Table) roomy(without []int) []int {
	var drives []int
	for d := range t.drives {
		if t.FreeOn(d) > 0 && !slices.Contains(without, d) {
			drives = append(drives, d)
		}
	}
	slices.SortStableFunc(drives, func(a, b int) int {
		return cmp.Compare(t.FreeOn(b), t.FreeOn(a))
	})
	return drives
}

// take takes the lowest free unit of a drive that has one.
func (t *Table) take(drive int) api.Unit {
	u := t.drives[drive].lowest
	t.put(u, Taken)
	return u
}

// put gives a unit that there is a state.
func (t *Table) put(u api.Unit, state int) {
	d := &t.drives[u.Drive]
	d.count[t.states[u]]--
	d.count[state]++
	if state == Free {
		delete(t.states, u)
		d.lowest.Zone = min(d.lowest.Zone, u.Zone)
		return
	}
	t.states[u] = state
	if u == d.lowest {
		t.seek(d)
	}
}

// seek goes from what was a drive's lowest free unit on to the one that is now. It ends, since past its zones nothing has another state.
func (t *Table) seek(d *drive) {
	for t.states[d.lowest] != Free {
		d.lowest.Zone++
	}
}
