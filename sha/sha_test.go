package sha_test

import (
	"bytes"
	"crypto/sha256"
	"encoding/hex"
	"math/rand"
	"strings"
	"testing"

	"flint/api"
	"flint/sha"
)

// text tells n bytes, the same ones for each n, no two neighbours alike.
func text(n int) []byte {
	b := make([]byte, n)
	for i := range b {
		b[i] = byte(i*7 + i/256)
	}
	return b
}

// plain tells the sum of b by another's hand.
func plain(b []byte) sha.Hash { return sha256.Sum256(b) }

// read tells the hash of 64 digits with blanks between, by another's hand.
func read(t *testing.T, s string) sha.Hash {
	t.Helper()
	var h sha.Hash
	b, err := hex.DecodeString(strings.ReplaceAll(s, " ", ""))
	if err != nil || copy(h[:], b) != len(h) || len(b) != len(h) {
		t.Fatalf("%s: no hash", s)
	}
	return h
}

// is asks that a digest of b tells its sum and its length.
func is(t *testing.T, what string, d *sha.Digest, b []byte) {
	t.Helper()
	if h := d.Sum(); h != plain(b) {
		t.Fatalf("%s: Sum: %x; want %x", what, h, plain(b))
	}
	if d.Len() != len(b) {
		t.Fatalf("%s: Len: %d; want %d", what, d.Len(), len(b))
	}
}

// known are sums that FIPS 180 and its examples tell.
var known = []struct {
	text string
	many int
	sum  string
}{
	{"", 1, "e3b0c442 98fc1c14 9afbf4c8 996fb924 27ae41e4 649b934c a495991b 7852b855"},
	{"abc", 1, "ba7816bf 8f01cfea 414140de 5dae2223 b00361a3 96177a9c b410ff61 f20015ad"},
	{"abcdbcdecdefdefgefghfghighijhijkijkljklmklmnlmnomnopnopq", 1, "248d6a61 d20638b8 e5c02693 0c3e6039 a33ce459 64ff2167 f6ecedd4 19db06c1"},
	{"abcdefghbcdefghicdefghijdefghijkefghijklfghijklmghijklmnhijklmnoijklmnopjklmnopqklmnopqrlmnopqrsmnopqrstnopqrstu", 1,
		"cf5b16a7 78af8380 036ce59e 7b049237 0b249b11 e8f07a51 afac4503 7afee9d1"},
	{"a", 1000000, "cdc76e5c 9914fb92 81a1c7e2 84d73e67 f1809a48 a497200e 046d39cc c7112cd0"},
}

func TestP1501KnownSums(t *testing.T) {
	for _, k := range known {
		b := []byte(strings.Repeat(k.text, k.many))
		want := read(t, k.sum)
		if h := sha.Sum(b); h != want {
			t.Errorf("%d bytes: %x; want %x", len(b), h, want)
		}
		d := sha.New()
		for range k.many {
			d.Write([]byte(k.text))
		}
		if h := d.Sum(); h != want {
			t.Errorf("%d bytes, written: %x; want %x", len(b), h, want)
		}
	}
}

func TestP1501SumOfNothing(t *testing.T) {
	want := read(t, known[0].sum)
	for i, h := range []sha.Hash{sha.Sum(), sha.Sum(nil), sha.Sum([]byte{}), sha.Sum(nil, []byte{}, nil), sha.New().Sum()} {
		if h != want {
			t.Errorf("%d: %x; want %x", i, h, want)
		}
	}
}

// All lengths at which the end's marks can lie otherwise in a block.
func TestP1501EachLength(t *testing.T) {
	for n := range 400 {
		b := text(n)
		if h := sha.Sum(b); h != plain(b) {
			t.Fatalf("%d bytes: %x; want %x", n, h, plain(b))
		}
		d := sha.New()
		d.Write(b)
		is(t, "written", d, b)
	}
}

func TestP1501AllBitsCount(t *testing.T) {
	b := make([]byte, 130)
	seen := map[sha.Hash]int{sha.Sum(b): -1}
	for bit := range 8 * len(b) {
		b[bit/8] ^= 1 << (bit % 8)
		h := sha.Sum(b)
		if was, ok := seen[h]; ok || h != plain(b) {
			t.Fatalf("bit %d: %x, as of %d", bit, h, was)
		}
		seen[h] = bit
		b[bit/8] ^= 1 << (bit % 8)
	}
}

func TestP1501RandomBytes(t *testing.T) {
	r := rand.New(rand.NewSource(15))
	for range 400 {
		b := make([]byte, r.Intn(5000))
		r.Read(b)
		if h := sha.Sum(b); h != plain(b) {
			t.Fatalf("%d bytes: %x; want %x", len(b), h, plain(b))
		}
	}
}

// More bytes than a number of 32 bits can count bits.
func TestP1501ManyBytes(t *testing.T) {
	part := text(1 << 20)
	d, want, n := sha.New(), sha256.New(), 0
	for n < 1<<29 {
		d.Write(part)
		want.Write(part)
		n += len(part)
	}
	for range 2 {
		if h := d.Sum(); !bytes.Equal(h[:], want.Sum(nil)) || d.Len() != n {
			t.Fatalf("%d bytes: %x, %d", n, h, d.Len())
		}
		d.Write(part[:77])
		want.Write(part[:77])
		n += 77
	}
}

func TestP1501NewHasNoBytes(t *testing.T) {
	d := sha.New()
	is(t, "New", d, nil)
	d.Write(nil)
	d.Write([]byte{})
	is(t, "of nothing", d, nil)
}

func TestP1501WriteGoesBehind(t *testing.T) {
	d := sha.New()
	var all []byte
	for n := range 200 {
		d.Write(text(n))
		all = append(all, text(n)...)
		if d.Len() != len(all) {
			t.Fatalf("Len: %d; want %d", d.Len(), len(all))
		}
	}
	is(t, "all", d, all)
}

// A sum that is asked for on the way changes nothing that comes.
func TestP1501SumMayGoOn(t *testing.T) {
	b := text(300)
	d := sha.New()
	for i := range b {
		is(t, "so far", d, b[:i])
		is(t, "again", d, b[:i])
		d.Write(b[i : i+1])
	}
	is(t, "all", d, b)
}

func TestP1503SumOfParts(t *testing.T) {
	for n := range 200 {
		b := text(n)
		want := plain(b)
		for i := 0; i <= n; i++ {
			if h := sha.Sum(b[:i], b[i:]); h != want {
				t.Fatalf("%d bytes, parted at %d: %x; want %x", n, i, h, want)
			}
			if h := sha.Sum(nil, b[:i], nil, b[i:], nil); h != want {
				t.Fatalf("%d bytes, parted at %d, nothing between: %x; want %x", n, i, h, want)
			}
		}
	}
}

// Parts that end in each way within blocks, ahead of one that does.
func TestP1503ThreeParts(t *testing.T) {
	b := text(200)
	want := plain(b)
	for i := 0; i <= len(b); i++ {
		for j := i; j <= len(b); j++ {
			d := sha.New()
			d.Write(b[:i])
			d.Write(b[i:j])
			d.Write(b[j:])
			if d.Sum() != want || d.Len() != len(b) || sha.Sum(b[:i], b[i:j], b[j:]) != want {
				t.Fatalf("parted at %d and %d", i, j)
			}
		}
	}
}

func TestP1503RandomParts(t *testing.T) {
	r := rand.New(rand.NewSource(3))
	for range 300 {
		b := text(r.Intn(3000))
		most := 1 + r.Intn(200)
		d := sha.New()
		var parts [][]byte
		for at := 0; at < len(b); {
			n := min(r.Intn(most+1), len(b)-at)
			parts = append(parts, b[at:at+n])
			d.Write(b[at : at+n])
			at += n
			if r.Intn(9) == 0 {
				is(t, "so far", d, b[:at])
			}
		}
		is(t, "all", d, b)
		if sha.Sum(parts...) != plain(b) {
			t.Fatalf("%d parts", len(parts))
		}
	}
}

// Where bytes stand counts, where they are parted does not.
func TestP1503OrderCounts(t *testing.T) {
	a, b := []byte("ab"), []byte("c")
	if sha.Sum(a, b) != sha.Sum([]byte("a"), []byte("bc")) {
		t.Error("it hangs on the parts")
	}
	if sha.Sum(a, b) == sha.Sum(b, a) {
		t.Error("it does not hang on the order")
	}
}

func TestP1502Examples(t *testing.T) {
	for _, k := range known {
		h := read(t, k.sum)
		s := strings.ReplaceAll(k.sum, " ", "")
		if h.String() != s {
			t.Errorf("String: %s; want %s", h, s)
		}
		if got, e := sha.Parse(s); got != h || e != api.OK {
			t.Errorf("Parse: %s, %v", got, e)
		}
	}
}
