package zone

import (
	"bytes"

	"flint/api"
)

// Drive has zones of pages, and hangs on the power.
type Drive struct {
	*Power
	piles []pile
	pages int // of a zone, at most
	size  int // bytes of a page
	lost  bool
}

// New tells a drive without pages that is attached to p.
func New(p *Power, zones, pages, size int) (*Drive, api.Errno) {
	if zones < 1 || zones > api.MaxZones || pages < 1 || pages > api.MaxPages || size < api.MinPage || size > api.MaxPage {
		return nil, api.ErrArg
	}
	d := &Drive{Power: p, piles: make([]pile, zones), pages: pages, size: size}
	d.Attach(d)
	return d, api.OK
}

// Shape tells how many zones it has, of how many pages at most, of how many bytes.
func (d *Drive) Shape() (zones, pages, size int) {
	return len(d.piles), d.pages, d.size
}

// Append writes a page behind a zone's last one.
func (d *Drive) Append(zone int, page []byte) api.Errno {
	z, e := d.find(zone)
	if e != api.OK {
		return e
	}
	if len(page) != d.size {
		return api.ErrArg
	}
	if len(z.pages) >= d.pages {
		return api.ErrFull
	}
	if !d.Write() {
		return api.ErrDown
	}
	z.add(page)
	return api.OK
}

// Read tells a page's bytes.
func (d *Drive) Read(zone, page int) ([]byte, api.Errno) {
	z, e := d.find(zone)
	if e != api.OK {
		return nil, e
	}
	if !z.has(page) {
		return nil, api.ErrNone
	}
	return bytes.Clone(z.pages[page]), api.OK
}

// Reset takes a zone's pages away.
func (d *Drive) Reset(zone int) api.Errno {
	z, e := d.find(zone)
	if e != api.OK {
		return e
	}
	if !d.Write() {
		return api.ErrDown
	}
	*z = pile{}
	return api.OK
}

// Flush makes all pages outlast cuts.
func (d *Drive) Flush() api.Errno {
	if e := d.ready(); e != api.OK {
		return e
	}
	if !d.Write() {
		return api.ErrDown
	}
	for i := range d.piles {
		d.piles[i].flush()
	}
	return api.OK
}

// Pointer tells how many pages a zone has.
func (d *Drive) Pointer(zone int) (int, api.Errno) {
	z, e := d.find(zone)
	if e != api.OK {
		return 0, e
	}
	return len(z.pages), api.OK
}

// ready tells what keeps the drive from doing anything.
func (d *Drive) ready() api.Errno {
	if d.Off() {
		return api.ErrDown
	}
	if d.lost {
		return api.ErrLost
	}
	return api.OK
}

// find tells a zone's pile, if the drive is ready.
func (d *Drive) find(zone int) (*pile, api.Errno) {
	if e := d.ready(); e != api.OK {
		return nil, e
	}
	if !d.has(zone) {
		return nil, api.ErrArg
	}
	return &d.piles[zone], api.OK
}

// has tells whether there is a zone with that number.
func (d *Drive) has(zone int) bool {
	return zone >= 0 && zone < len(d.piles)
}
