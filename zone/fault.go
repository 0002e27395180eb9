package zone

// Cut keeps of each zone's pages that were not flushed as many as its pick says.
func (d *Drive) Cut(picks ...int) {
	for i := range d.piles {
		z := &d.piles[i]
		if z.loose() == 0 {
			continue // and the next pick is the next zone's
		}
		pick := 0
		if len(picks) > 0 {
			pick, picks = picks[0], picks[1:]
		}
		z.cut(pick)
	}
}

// Lose makes the drive lost.
func (d *Drive) Lose() {
	d.lost = true
	clear(d.piles)
}

// Replace puts a blank drive in its place.
func (d *Drive) Replace() {
	d.lost = false
	clear(d.piles)
}

// Lost tells whether it is lost.
func (d *Drive) Lost() bool {
	return d.lost
}

// Rot turns one bit of a page; false, if there is no such page.
func (d *Drive) Rot(zone, page, bit int) bool {
	if !d.has(zone) || !d.piles[zone].has(page) {
		return false
	}
	bit = max(bit, 0) % (8 * d.size)
	d.piles[zone].pages[page][bit/8] ^= 1 << (bit % 8)
	return true
}
