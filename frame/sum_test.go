package frame_test

import (
	"hash/crc32"
	"math/rand/v2"
	"testing"

	"flint/frame"
)

var castagnoli = crc32.MakeTable(crc32.Castagnoli)

// noise tells n bytes that are the same ones for the same seed.
func noise(seed uint64, n int) []byte {
	r := rand.New(rand.NewPCG(seed, 1))
	b := make([]byte, n)
	for i := range b {
		b[i] = byte(r.Uint32())
	}
	return b
}

// count tells n bytes that go from first on by step.
func count(n int, first, step byte) []byte {
	b := make([]byte, n)
	for i := range b {
		b[i] = first + byte(i)*step
	}
	return b
}

func TestP101KnownSums(t *testing.T) {
	for _, c := range []struct {
		name  string
		parts [][]byte
		want  uint32
	}{
		{"no part", nil, 0},
		{"nil", [][]byte{nil}, 0},
		{"empty parts", [][]byte{{}, nil, {}}, 0},
		{"digits", [][]byte{[]byte("123456789")}, 0xE3069283},
		{"digits in parts", [][]byte{[]byte("1"), nil, []byte("2345678"), {}, []byte("9")}, 0xE3069283},
		{"32 noughts", [][]byte{count(32, 0, 0)}, 0x8A9136AA},
		{"32 bytes FF", [][]byte{count(32, 0xFF, 0)}, 0x62A8AB43},
		{"32 rising", [][]byte{count(32, 0, 1)}, 0x46DD794E},
		{"32 falling", [][]byte{count(32, 31, 0xFF)}, 0x113FDB5C},
	} {
		if s := frame.Sum(c.parts...); s != c.want {
			t.Errorf("%s: %08X; want %08X", c.name, s, c.want)
		}
	}
}

func TestP101SumOfEveryByte(t *testing.T) {
	for x := range 256 {
		b := []byte{byte(x)}
		if s, want := frame.Sum(b), crc32.Checksum(b, castagnoli); s != want {
			t.Errorf("%02X: %08X; want %08X", x, s, want)
		}
	}
}

func TestP101SumOfManyBytes(t *testing.T) {
	for _, n := range []int{2, 3, 4, 7, 8, 15, 16, 17, 63, 64, 65, 1000, 65536, 1 << 20} {
		b := noise(uint64(n), n)
		if s, want := frame.Sum(b), crc32.Checksum(b, castagnoli); s != want {
			t.Errorf("%d bytes: %08X; want %08X", n, s, want)
		}
	}
}

func TestP106SumOfPartsIsSumOfAll(t *testing.T) {
	b := noise(7, 40)
	want := frame.Sum(b)
	for i := range len(b) + 1 {
		for j := i; j <= len(b); j++ {
			if s := frame.Sum(b[:i], b[i:j], b[j:]); s != want {
				t.Fatalf("parts at %d and %d: %08X; want %08X", i, j, s, want)
			}
		}
	}
}
