package gf_test

import (
	"math"
	"testing"

	"flint/api"
	"flint/gf"
)

// modulus is x^8 + x^4 + x^3 + x^2 + 1, bit by bit.
const modulus = 0b1_0001_1101

// product tells what Mul must, as long multiplication and long division do it.
func product(a, b int) byte {
	p := 0
	for i := range 8 {
		if b>>i&1 == 1 {
			p ^= a << i
		}
	}
	for i := 14; i >= 8; i-- {
		if p>>i&1 == 1 {
			p ^= modulus << (i - 8)
		}
	}
	return byte(p)
}

func TestP501Add(t *testing.T) {
	for a := range 256 {
		for b := range 256 {
			want := 0
			for i := range 8 {
				want |= (a>>i + b>>i) & 1 << i
			}
			if s := gf.Add(byte(a), byte(b)); s != byte(want) {
				t.Fatalf("Add(%#x, %#x): %#x; want %#x", a, b, s, want)
			}
		}
	}
}

func TestP501Mul(t *testing.T) {
	for a := range 256 {
		for b := range 256 {
			if p := gf.Mul(byte(a), byte(b)); p != product(a, b) {
				t.Fatalf("Mul(%#x, %#x): %#x; want %#x", a, b, p, product(a, b))
			}
		}
	}
	if p := gf.Mul(0x80, 2); p != 0x1D {
		t.Errorf("Mul(0x80, 2): %#x; want 0x1d", p)
	}
}

func TestP501Div(t *testing.T) {
	for q := range 256 {
		for b := 1; b < 256; b++ {
			if got, e := gf.Div(product(q, b), byte(b)); got != byte(q) || e != api.OK {
				t.Fatalf("Div(%#x, %#x): %#x, %v; want %#x", product(q, b), b, got, e, q)
			}
		}
	}
	if q, e := gf.Div(1, 2); q != 0x8E || e != api.OK {
		t.Errorf("Div(1, 2): %#x, %v; want 0x8e", q, e)
	}
}

func TestP501DivByNought(t *testing.T) {
	for a := range 256 {
		if q, e := gf.Div(byte(a), 0); q != 0 || e != api.ErrArg {
			t.Errorf("Div(%#x, 0): %#x, %v; want arg", a, q, e)
		}
	}
}

// power asks one Pow.
func power(t *testing.T, a byte, n int, want byte) {
	t.Helper()
	if p, e := gf.Pow(a, n); p != want || e != api.OK {
		t.Fatalf("Pow(%#x, %d): %#x, %v; want %#x", a, n, p, e, want)
	}
}

func TestP501PowUpwards(t *testing.T) {
	for a := range 256 {
		want := byte(1)
		for n := range 600 {
			power(t, byte(a), n, want)
			want = product(int(want), a)
		}
	}
	power(t, 2, 8, 0x1D)
}

func TestP501PowDownwards(t *testing.T) {
	for a := 1; a < 256; a++ {
		inverse := 1
		for product(a, inverse) != 1 {
			inverse++
		}
		want := byte(1)
		for n := range 600 {
			power(t, byte(a), -n, want)
			want = product(int(want), inverse)
		}
	}
}

func TestP501PowOfNought(t *testing.T) {
	power(t, 0, 0, 1)
	for _, n := range []int{1, 2, 254, 255, 256, 510, math.MaxInt - 127, math.MaxInt} {
		power(t, 0, n, 0)
	}
	for _, n := range []int{-1, -2, -254, -255, -256, -510, math.MinInt + 1, math.MinInt} {
		if p, e := gf.Pow(0, n); p != 0 || e != api.ErrArg {
			t.Errorf("Pow(0, %d): %#x, %v; want arg", n, p, e)
		}
	}
}

// 255 times is none, 2 to the 63 is 128 modulo 255.
func TestP501PowOfGreatNumbers(t *testing.T) {
	for a := 1; a < 256; a++ {
		want, _ := gf.Pow(byte(a), 127)
		power(t, byte(a), math.MaxInt, want)
		want, _ = gf.Pow(byte(a), -128)
		power(t, byte(a), math.MinInt, want)
	}
}

func TestP501Log(t *testing.T) {
	if n, e := gf.Log(0); n != 0 || e != api.ErrArg {
		t.Errorf("Log(0): %d, %v; want arg", n, e)
	}
	a := byte(1)
	for want := range 255 {
		if n, e := gf.Log(a); n != want || e != api.OK {
			t.Errorf("Log(%#x): %d, %v; want %d", a, n, e, want)
		}
		a = product(int(a), 2)
	}
}

func TestP504SumsAndProductsOfThree(t *testing.T) {
	for i := range 1 << 24 {
		if i%7 != 0 && i&0xFF != i>>16 { // not all of them: that would take long
			continue
		}
		a, b, c := byte(i), byte(i>>8), byte(i>>16)
		if gf.Mul(gf.Mul(a, b), c) != gf.Mul(a, gf.Mul(b, c)) {
			t.Fatalf("%#x times %#x times %#x hangs on the order", a, b, c)
		}
		if gf.Mul(a, gf.Add(b, c)) != gf.Add(gf.Mul(a, b), gf.Mul(a, c)) {
			t.Fatalf("%#x times the sum of %#x and %#x is not the products' sum", a, b, c)
		}
		if gf.Add(gf.Add(a, b), c) != gf.Add(a, gf.Add(b, c)) {
			t.Fatalf("%#x and %#x and %#x hangs on the order", a, b, c)
		}
	}
}

func TestP504SumsAndProductsOfTwo(t *testing.T) {
	for i := range 1 << 16 {
		a, b := byte(i), byte(i>>8)
		if gf.Add(a, b) != gf.Add(b, a) || gf.Mul(a, b) != gf.Mul(b, a) {
			t.Fatalf("%#x, %#x: hangs on the order", a, b)
		}
		if (gf.Add(a, b) == 0) != (a == b) || (gf.Mul(a, b) == 0) != (a == 0 || b == 0) {
			t.Fatalf("%#x, %#x: not a field", a, b)
		}
		if gf.Add(a, 0) != a || gf.Mul(a, 1) != a {
			t.Fatalf("%#x: 0 and 1 change it", a)
		}
		if q, e := gf.Div(gf.Mul(a, b), b); b != 0 && (q != a || e != api.OK) {
			t.Fatalf("%#x times %#x, divided: %#x, %v", a, b, q, e)
		}
	}
}

func TestP504TwoMakesAllButNought(t *testing.T) {
	var made [256]int
	for n := range 255 {
		a, _ := gf.Pow(2, n)
		made[a]++
		if l, e := gf.Log(a); l != n || e != api.OK {
			t.Errorf("Log(%#x): %d, %v; want %d", a, l, e, n)
		}
	}
	for a, n := range made {
		if want := min(a, 1); n != want {
			t.Errorf("%#x: made %d times; want %d", a, n, want)
		}
	}
}
