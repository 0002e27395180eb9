package medium

import (
	"math"

	"flint/api"
)

// keySize is how many bytes a key has: two numbers of wide bytes.
const (
	wide    = 8
	keySize = 2 * wide
)

// Key, ReadKey, Stretch are places as keys.
func Key(p Place) string {
	b := make([]byte, 0, keySize)
	b = put(b, p.Medium)
	b = put(b, uint64(p.Block))
	return string(b)
}

func ReadKey(k string) (Place, bool) {
	if len(k) != keySize {
		return Place{}, false
	}
	block := get(k[wide:])
	if block > math.MaxInt {
		return Place{}, false
	}
	return Place{get(k[:wide]), int(block)}, true
}

func Stretch(id uint64, from, to int) (lo, hi string) {
	lo = Key(Place{id, from})
	if to >= api.MaxBlocks {
		return lo, Key(Place{id + 1, 0})
	}
	return lo, Key(Place{id, to})
}

// put adds v's bytes, the highest first, so that keys are ordered as places are.
func put(b []byte, v uint64) []byte {
	for i := range wide {
		b = append(b, byte(v>>(8*(wide-1-i))))
	}
	return b
}

// get is the way back.
func get(k string) uint64 {
	v := uint64(0)
	for i := range wide {
		v = v<<8 | uint64(k[i])
	}
	return v
}
