package zone

import "slices"

// Device is what is cut when the power goes.
type Device interface {
	Cut(picks ...int)
}

// Power is what devices hang on.
type Power struct {
	devices []Device
	off     bool
	writes  int
	left    int   // the power goes at that write from now on; 0: at none
	picks   []int // what devices are cut by then
}

// NewPower tells one that is on.
func NewPower() *Power {
	return &Power{}
}

// Attach has d cut when the power goes.
func (p *Power) Attach(d Device) {
	p.devices = append(p.devices, d)
}

// Arm has the power go at the n-th write from now on.
func (p *Power) Arm(n int, picks ...int) {
	p.left, p.picks = max(n, 1), slices.Clone(picks)
}

// Write begins a write: false, if there is no power for it.
// One that is refused because the power is off already brings the armed one no nearer.
func (p *Power) Write() bool {
	if p.off {
		return false
	}
	if p.left == 1 {
		p.fail()
		return false
	}
	p.left = max(p.left-1, 0)
	p.writes++
	return true
}

// fail cuts all devices. It is off before that, so that a device which asks while it is cut is told so.
func (p *Power) fail() {
	picks := p.picks
	p.off, p.left, p.picks = true, 0, nil
	for _, d := range p.devices {
		if !spared(d) {
			d.Cut(slices.Clone(picks)...) // one device's changes to its picks are not the next one's
		}
	}
}

// spared tells whether a cut has nothing to take from d. That is asked of drives alone:
// any other device is cut, whatever methods it has besides.
func spared(d Device) bool {
	drive, ok := d.(*Drive)
	return ok && drive.Lost()
}

// Off tells whether it is off.
func (p *Power) Off() bool {
	return p.off
}

// On puts it on; what was armed stays so.
func (p *Power) On() {
	p.off = false
}

// Writes tells how many writes were begun.
func (p *Power) Writes() int {
	return p.writes
}
