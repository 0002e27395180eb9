package nvlog

import (
	"flint/api"
	"flint/frame"
)

// mostFront is how many bytes a record takes at most ahead of its own: the number that says how many these are. A device's size needs no more.
const mostFront = 4

// visit is told a record's number, where its bytes begin, and how many they are.
type visit func(seq uint64, at, size int) error

// walk goes round the ring, from the first record on up to the one with the number up; it tells the bounds of those behind.
func (l *Log) walk(b bounds, up uint64, see visit) (bounds, error) {
round:
	for {
		switch {
		case b.first == b.next && b.used > 0: // bytes of no record: they are no log's
			return bounds{}, wrap("ring", api.ErrForm)
		case b.first == b.next, b.first > up:
			break round
		}
		front, size, err := l.front(b)
		if err == nil {
			err = see(b.first, b.at+front, size)
		}
		if err != nil {
			return bounds{}, err
		}
		b = b.shorter(front+size, l.ring)
	}
	return b, nil
}

// front tells how many bytes the first record takes ahead of its own, and how many its own are.
func (l *Log) front(b bounds) (front, size int, err error) {
	head, err := l.read(b.at, min(mostFront, b.used))
	if err != nil {
		return 0, 0, err
	}
	v, n, e := frame.ReadNumber(head)
	if e != api.OK || v > uint64(b.used-n) {
		return 0, 0, wrap("record", api.ErrForm)
	}
	return n, int(v), nil
}

// read tells n bytes of the ring from at on, which go on at its beginning behind its end.
func (l *Log) read(at, n int) ([]byte, error) {
	b := make([]byte, 0, n)
	for at %= l.ring; len(b) < n; at = 0 {
		part, e := l.device.Read(ringAt+at, min(n-len(b), l.ring-at))
		if e != api.OK {
			return nil, wrap("ring", e)
		}
		b = append(b, part...)
	}
	return b, nil
}

// write puts b into the ring from at on, as read tells it.
func (l *Log) write(at int, b []byte) error {
	for at %= l.ring; len(b) > 0; at = 0 {
		n := min(len(b), l.ring-at)
		if e := l.device.Write(ringAt+at, b[:n]); e != api.OK {
			return wrap("ring", e)
		}
		b = b[n:]
	}
	return nil
}
