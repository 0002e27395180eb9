package frame

import (
	"bytes"

	"flint/api"
)

// Where the parts of a record begin, behind its payload's size.
const (
	recordSeq     = 4
	recordPayload = 12
)

// Record tells a record that has seq and payload.
func Record(seq uint64, payload []byte) []byte {
	size := Number(nil, uint64(len(payload)))
	r := make([]byte, len(size)+recordPayload+len(payload))
	body := r[copy(r, size):]
	put(body[recordSeq:recordPayload], seq)
	copy(body[recordPayload:], payload)
	put(body[:recordSeq], uint64(Sum(body[recordSeq:])))
	return r
}

// ReadRecord tells the seq and the payload of the record at the front of b, and how many bytes it has.
func ReadRecord(b []byte) (uint64, []byte, int, api.Errno) {
	size, n, e := ReadNumber(b)
	if e != api.OK {
		return 0, nil, 0, e
	}
	if size > api.MaxValue {
		return 0, nil, 0, api.ErrLong
	}
	end := n + recordPayload + int(size)
	if end > len(b) {
		return 0, nil, 0, api.ErrShort
	}
	body := b[n:end]
	if get(body[:recordSeq]) != uint64(Sum(body[recordSeq:])) {
		return 0, nil, 0, api.ErrSum
	}
	return get(body[recordSeq:recordPayload]), bytes.Clone(body[recordPayload:]), end, api.OK
}
