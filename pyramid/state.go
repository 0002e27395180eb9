package pyramid

import (
	"bytes"
	"math"

	"flint/api"
	"flint/frame"
)

const sumBytes = 4

// Encode, Decode write and read a state: the Sum of what follows, the lowest byte first; the sequence
// number; how many patches there are, and each one's numbers; how many elisions, and each one's keys and number.
func Encode(s State) []byte {
	b := numbers(nil, s.Seq, uint64(len(s.Patches)))
	for _, x := range s.Patches {
		b = numbers(b, x.At.Segment, uint64(x.At.At), uint64(x.At.N), uint64(x.Level), x.Lo, x.Hi)
	}
	b = numbers(b, uint64(len(s.Elisions)))
	for _, x := range s.Elisions {
		b = append(b, frame.Bytes(nil, []byte(x.Lo))...)
		b = append(b, frame.Bytes(nil, []byte(x.Hi))...)
		b = numbers(b, x.Seq)
	}
	return append(summed(b), b...)
}

func Decode(b []byte) (State, api.Errno) {
	if len(b) < sumBytes || !bytes.Equal(b[:sumBytes], summed(b[sumBytes:])) {
		return State{}, api.ErrForm
	}
	r := reader{rest: b[sumBytes:]}
	s := State{Seq: r.number()}
	for n := r.number(); n > 0 && !r.bad; n-- {
		s.Patches = append(s.Patches, r.patch())
	}
	for n := r.number(); n > 0 && !r.bad; n-- {
		s.Elisions = append(s.Elisions, api.Elision{Lo: r.text(), Hi: r.text(), Seq: r.number()})
	}
	if r.bad || len(r.rest) > 0 {
		return State{}, api.ErrForm
	}
	return s, api.OK
}

// numbers tells b with some numbers behind it. Those below 0 have wrapped, and wrap back.
func numbers(b []byte, l ...uint64) []byte {
	for _, v := range l {
		b = append(b, frame.Number(nil, v)...)
	}
	return b
}

// summed tells the Sum of b in bytes.
func summed(b []byte) []byte {
	v := frame.Sum(b)
	return []byte{byte(v), byte(v >> 8), byte(v >> 16), byte(v >> 24)}
}

// reader reads what is left of some bytes. Once something could not be read it is bad, and what it tells is nothing.
type reader struct {
	rest []byte
	bad  bool
}

func (r *reader) number() uint64 {
	v, n, e := frame.ReadNumber(r.rest)
	r.pass(n, e)
	return v
}

func (r *reader) text() string {
	b, n, e := frame.ReadBytes(r.rest, math.MaxInt)
	r.pass(n, e)
	return string(b)
}

func (r *reader) patch() Patch {
	at := api.Addr{Segment: r.number(), At: int(r.number()), N: int(r.number())}
	return Patch{At: at, Level: int(r.number()), Lo: r.number(), Hi: r.number()}
}

// pass goes on behind n bytes, or no further.
func (r *reader) pass(n int, e api.Errno) {
	r.rest, r.bad = r.rest[n:], r.bad || e != api.OK
}
