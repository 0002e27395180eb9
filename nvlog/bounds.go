package nvlog

import (
	"errors"

	"flint/api"
	"flint/frame"
)

// A device begins with a byte that says whose turn it is: which of two slots, the first or the second, has the bounds that hold (0: none has).
// Only the other slot is ever written, so a cut leaves those that hold as they are.
const (
	turnAt   = 0
	slotsAt  = turnAt + 1
	slotSize = 10 + 10 + 4 + 4 // two numbers of 64 bits, two places of a device
	ringAt   = slotsAt + 2*slotSize
)

// bounds say which records there are, and where in the ring.
type bounds struct {
	first, next uint64 // the first record's number, and the number behind the last one's
	at, used    int    // where the first one begins, and how many bytes all of them take
}

// longer tells the bounds with one more record behind the others.
func (b bounds) longer(took int) bounds {
	b.next++
	b.used += took
	return b
}

// shorter tells the bounds without the first record.
func (b bounds) shorter(took, ring int) bounds {
	b.first++
	b.at = (b.at + took) % ring
	b.used -= took
	return b
}

// slot tells the bounds as bytes.
func (b bounds) slot() []byte {
	var s []byte
	for _, v := range []uint64{b.first, b.next, uint64(b.at), uint64(b.used)} {
		s = frame.Number(s, v)
	}
	return s
}

// readSlot tells the bounds that slot told, for a ring of so many bytes.
func readSlot(s []byte, ring int) (bounds, api.Errno) {
	var v [4]uint64
	for i := range v {
		number, n, e := frame.ReadNumber(s)
		if e != api.OK {
			return bounds{}, api.ErrForm
		}
		v[i], s = number, s[n:]
	}
	if v[0] > v[1] || v[2] >= uint64(ring) || v[3] > uint64(ring) {
		return bounds{}, api.ErrForm
	}
	return bounds{first: v[0], next: v[1], at: int(v[2]), used: int(v[3])}, api.OK
}

// bounds tells those that hold.
func (l *Log) bounds() (bounds, error) {
	turn, err := l.turn()
	if err != nil {
		return bounds{}, err
	}
	s, e := l.device.Read(place(turn), slotSize)
	if e != api.OK {
		return bounds{}, wrap("slot", e)
	}
	b, e := readSlot(s, l.ring)
	return b, wrap("slot", e)
}

// turn tells which slot's turn it is.
func (l *Log) turn() (byte, error) {
	b, e := l.device.Read(turnAt, 1)
	if e == api.OK && b[0] != 1 && b[0] != 2 {
		e = api.ErrForm
	}
	if e != api.OK {
		return 0, wrap("turn", e)
	}
	return b[0], nil
}

// place tells where a turn's slot begins.
func place(turn byte) int {
	return slotsAt + int(turn-1)*slotSize
}

// settle makes b the bounds that hold, and all that was written ahead outlast cuts: that first, and then the one byte that decides.
func (l *Log) settle(b bounds) error {
	turn, err := l.turn()
	if err != nil && !errors.Is(err, api.ErrForm) { // a device that was never formatted has turn 0
		return err
	}
	other := turn%2 + 1
	if err := l.persist(place(other), b.slot()); err != nil {
		return err
	}
	if err := l.persist(turnAt, []byte{other}); err != nil {
		return err
	}
	l.known = b
	return nil
}

// persist writes b, and has all that was written outlast cuts.
func (l *Log) persist(at int, b []byte) error {
	if e := l.device.Write(at, b); e != api.OK {
		return wrap("write", e)
	}
	return wrap("persist", l.device.Persist())
}
