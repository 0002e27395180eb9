package frame

// halves has the remainders of the sixteen half bytes by the polynomial, whose
// bits are turned round, as those of every byte are taken from the lowest on.
// A table of whole bytes would be too great to stand at package level.
var halves = [16]uint32{
	0x00000000, 0x105EC76F, 0x20BD8EDE, 0x30E349B1,
	0x417B1DBC, 0x5125DAD3, 0x61C69362, 0x7198540D,
	0x82F63B78, 0x92A8FC17, 0xA24BB5A6, 0xB21572C9,
	0xC38D26C4, 0xD3D3E1AB, 0xE330A81A, 0xF36E6F75,
}

// Sum tells the CRC-32C of parts.
func Sum(parts ...[]byte) uint32 {
	s := ^uint32(0)
	for _, p := range parts {
		for _, b := range p {
			s ^= uint32(b)
			s = s>>4 ^ halves[s&15]
			s = s>>4 ^ halves[s&15]
		}
	}
	return ^s
}
