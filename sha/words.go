package sha

import "math/bits"

const (
	blockBytes  = 64
	lengthBytes = 8
	endMark     = 0x80 // the bit behind the last one
	rounds      = 64
	wordBytes   = 4
)

// words are what the blocks up to one came to.
type words [8]uint32

// start tells the words ahead of all blocks: of the square roots of the first 8 primes, 32 bits behind the point.
func start() words {
	return words{0x6a09e667, 0xbb67ae85, 0x3c6ef372, 0xa54ff53a, 0x510e527f, 0x9b05688c, 0x1f83d9ab, 0x5be0cd19}
}

// numbers has one for each round: of the cube roots of the first 64 primes, 32 bits behind the point.
var numbers = [rounds]uint32{
	0x428a2f98, 0x71374491, 0xb5c0fbcf, 0xe9b5dba5, 0x3956c25b, 0x59f111f1, 0x923f82a4, 0xab1c5ed5,
	0xd807aa98, 0x12835b01, 0x243185be, 0x550c7dc3, 0x72be5d74, 0x80deb1fe, 0x9bdc06a7, 0xc19bf174,
	0xe49b69c1, 0xefbe4786, 0x0fc19dc6, 0x240ca1cc, 0x2de92c6f, 0x4a7484aa, 0x5cb0a9dc, 0x76f988da,
	0x983e5152, 0xa831c66d, 0xb00327c8, 0xbf597fc7, 0xc6e00bf3, 0xd5a79147, 0x06ca6351, 0x14292967,
	0x27b70a85, 0x2e1b2138, 0x4d2c6dfc, 0x53380d13, 0x650a7354, 0x766a0abb, 0x81c2c92e, 0x92722c85,
	0xa2bfe8a1, 0xa81a664b, 0xc24b8b70, 0xc76c51a3, 0xd192e819, 0xd6990624, 0xf40e3585, 0x106aa070,
	0x19a4c116, 0x1e376c08, 0x2748774c, 0x34b0bcb5, 0x391c0cb3, 0x4ed8aa4a, 0x5b9cca4f, 0x682e6ff3,
	0x748f82ee, 0x78a5636f, 0x84c87814, 0x8cc70208, 0x90befffa, 0xa4506ceb, 0xbef9a3f7, 0xc67178f2,
}

// turn tells x turned right.
func turn(x uint32, by int) uint32 { return bits.RotateLeft32(x, -by) }

// spread makes a word for each round of a block.
func spread(block []byte) [rounds]uint32 {
	var m [rounds]uint32
	for i := range blockBytes / wordBytes {
		b := block[wordBytes*i:][:wordBytes]
		m[i] = uint32(b[0])<<24 | uint32(b[1])<<16 | uint32(b[2])<<8 | uint32(b[3])
	}
	for i := blockBytes / wordBytes; i < rounds; i++ {
		x, y := m[i-15], m[i-2]
		x = turn(x, 7) ^ turn(x, 18) ^ x>>3
		y = turn(y, 17) ^ turn(y, 19) ^ y>>10
		m[i] = m[i-16] + x + m[i-7] + y
	}
	return m
}

// with tells what the words are behind one more block.
func (w words) with(block []byte) words {
	a, b, c, d, e, f, g, h := w[0], w[1], w[2], w[3], w[4], w[5], w[6], w[7]
	for i, m := range spread(block) {
		choice := e&f ^ ^e&g
		most := a&b ^ a&c ^ b&c
		x := h + (turn(e, 6) ^ turn(e, 11) ^ turn(e, 25)) + choice + numbers[i] + m
		y := (turn(a, 2) ^ turn(a, 13) ^ turn(a, 22)) + most
		a, b, c, d, e, f, g, h = x+y, a, b, c, d+x, e, f, g
	}
	return words{w[0] + a, w[1] + b, w[2] + c, w[3] + d, w[4] + e, w[5] + f, w[6] + g, w[7] + h}
}

// hash tells the words' bytes, each word's highest byte first.
func (w words) hash() Hash {
	var h Hash
	for i := range h {
		h[i] = byte(w[i/wordBytes] >> (8 * (wordBytes - 1 - i%wordBytes)))
	}
	return h
}
