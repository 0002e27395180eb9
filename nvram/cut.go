package nvram

import "bytes"

// undo takes a written stretch back, but for what of it is among the first kept bytes of all that a cut may take.
type undo func(kept int)

// Pending tells how many bytes a cut may take.
func (d *Device) Pending() int {
	return d.pending
}

// Cut keeps of the bytes that it may take as many as the first pick says, from the first one on.
func (d *Device) Cut(picks ...int) {
	kept := 0
	if len(picks) > 0 && picks[0] > 0 {
		kept = picks[0] % (d.pending + 1)
	}
	for i := len(d.undos) - 1; i >= 0; i-- { // each puts back what those ahead of it made
		d.undos[i](kept)
	}
	d.settle()
}

// put lays b at its place, and keeps how that is undone.
func (d *Device) put(at int, b []byte) {
	if len(b) == 0 {
		return
	}
	was, ahead := bytes.Clone(d.bytes[at:at+len(b)]), d.pending
	d.undos = append(d.undos, func(kept int) {
		own := min(max(kept-ahead, 0), len(was))
		copy(d.bytes[at+own:], was[own:])
	})
	d.pending += copy(d.bytes[at:], b)
}

// settle makes the bytes, as they are, outlast cuts.
func (d *Device) settle() {
	d.undos, d.pending = nil, 0
}
