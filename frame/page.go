package frame

import (
	"bytes"

	"flint/api"
)

// Where the parts of a page begin.
const (
	pageSegment = 4
	pageRow     = 12
	pageShard   = 16
	pageSize    = 17
	pagePayload = 19
)

// What fits a page's head.
const (
	mostRow   = 1 << 30
	mostShard = 1<<8 - 1
	mostSize  = 1<<16 - 1
)

// Room tells how many bytes of payload a page of size bytes holds; 0, if there is no such page.
func Room(size int) int {
	if size < api.MinPage || size > api.MaxPage {
		return 0
	}
	return min(size-pagePayload, mostSize)
}

// Page tells a page of size bytes that has h, but for its Size, and payload.
func Page(size int, h api.Head, payload []byte) ([]byte, api.Errno) {
	room := Room(size)
	if room == 0 || h.Row < 0 || h.Row > mostRow || h.Shard < 0 || h.Shard > mostShard {
		return nil, api.ErrArg
	}
	if len(payload) > room {
		return nil, api.ErrLong
	}
	p := make([]byte, size)
	put(p[pageSegment:pageRow], h.Segment)
	put(p[pageRow:pageShard], uint64(h.Row))
	put(p[pageShard:pageSize], uint64(h.Shard))
	put(p[pageSize:pagePayload], uint64(len(payload)))
	copy(p[pagePayload:], payload)
	put(p[:pageSegment], uint64(Sum(p[pageSegment:])))
	return p, api.OK
}

// ReadPage tells the head and the payload of b, which is a page as a whole.
func ReadPage(b []byte) (api.Head, []byte, api.Errno) {
	room := Room(len(b))
	if room == 0 {
		return api.Head{}, nil, api.ErrArg
	}
	if get(b[:pageSegment]) != uint64(Sum(b[pageSegment:])) {
		return api.Head{}, nil, api.ErrSum
	}
	row := get(b[pageRow:pageShard])
	size := int(get(b[pageSize:pagePayload]))
	if row > mostRow || size > room || !blank(b[pagePayload+size:]) {
		return api.Head{}, nil, api.ErrForm
	}
	h := api.Head{
		Segment: get(b[pageSegment:pageRow]),
		Row:     int(row),
		Shard:   int(b[pageShard]),
		Size:    size,
	}
	return h, bytes.Clone(b[pagePayload : pagePayload+size]), api.OK
}

// blank tells whether all of b are noughts.
func blank(b []byte) bool {
	for _, x := range b {
		if x != 0 {
			return false
		}
	}
	return true
}
