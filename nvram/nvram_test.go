package nvram_test

import (
	"bytes"
	"math"
	"strings"
	"testing"

	"flint/api"
	"flint/nvram"
	"flint/zone"
)

// fresh tells a device of so many bytes, and its power.
func fresh(t *testing.T, size int) (*zone.Power, *nvram.Device) {
	t.Helper()
	p := zone.NewPower()
	d, e := nvram.New(p, size)
	if e != api.OK || d == nil {
		t.Fatalf("New(%d): %v", size, e)
	}
	return p, d
}

// put writes texts, which must be done.
func put(t *testing.T, d *nvram.Device, at int, texts ...string) {
	t.Helper()
	var parts [][]byte
	for _, s := range texts {
		parts = append(parts, []byte(s))
	}
	if e := d.Write(at, parts...); e != api.OK {
		t.Fatalf("Write(%d, %q): %v", at, texts, e)
	}
}

// persist is one that must be done.
func persist(t *testing.T, d *nvram.Device) {
	t.Helper()
	if e := d.Persist(); e != api.OK {
		t.Fatalf("Persist: %v", e)
	}
}

// holds asks that the device begins with front, where a dot is byte 0, and is 0 behind it.
func holds(t *testing.T, d *nvram.Device, front string) {
	t.Helper()
	want := make([]byte, d.Size())
	copy(want, strings.ReplaceAll(front, ".", "\x00"))
	if b, e := d.Read(0, d.Size()); e != api.OK || !bytes.Equal(b, want) {
		t.Errorf("it holds %q, %v; want %q", bytes.TrimRight(b, "\x00"), e, front)
	}
}

// pends asks how many bytes are pending.
func pends(t *testing.T, d *nvram.Device, want int) {
	t.Helper()
	if n := d.Pending(); n != want {
		t.Errorf("Pending: %d; want %d", n, want)
	}
}

// down puts the power off.
func down(p *zone.Power, picks ...int) {
	p.Arm(1, picks...)
	p.Write()
}

func TestP401New(t *testing.T) {
	for _, c := range []struct {
		size int
		want api.Errno
	}{
		{64, api.OK}, {65, api.OK}, {256, api.OK}, {1<<26 - 1, api.OK}, {1 << 26, api.OK},
		{63, api.ErrArg}, {1, api.ErrArg}, {0, api.ErrArg}, {-1, api.ErrArg}, {-64, api.ErrArg},
		{1<<26 + 1, api.ErrArg}, {1 << 27, api.ErrArg}, {math.MaxInt, api.ErrArg}, {math.MinInt, api.ErrArg},
	} {
		d, e := nvram.New(zone.NewPower(), c.size)
		if e != c.want || (d != nil) != (e == api.OK) {
			t.Fatalf("New(%d): a device %v, %v; want %v", c.size, d != nil, e, c.want)
		}
		if d == nil {
			continue
		}
		if n := d.Size(); n != c.size {
			t.Errorf("Size: %d; want %d", n, c.size)
		}
		holds(t, d, "")
		pends(t, d, 0)
	}
}

func TestP401NewIsAttached(t *testing.T) {
	p, d := fresh(t, 64)
	put(t, d, 0, "ab")
	down(p, 1)
	pends(t, d, 0)
	p.On()
	holds(t, d, "a")
}

func TestP401NewWritesNothing(t *testing.T) {
	p, _ := fresh(t, 64)
	nvram.New(p, 0)
	if p.Writes() != 0 || p.Off() {
		t.Errorf("%d writes, off %v", p.Writes(), p.Off())
	}
}

func TestP401NewWithoutPower(t *testing.T) {
	p := zone.NewPower()
	down(p)
	d, e := nvram.New(p, 64)
	if d == nil || e != api.OK || d.Size() != 64 {
		t.Fatalf("%v", e)
	}
	if _, e := d.Read(0, 1); e != api.ErrDown {
		t.Errorf("Read: %v; want down", e)
	}
	p.On()
	holds(t, d, "")
}

func TestP402Write(t *testing.T) {
	p, d := fresh(t, 64)
	put(t, d, 3, "abc")
	holds(t, d, "...abc")
	put(t, d, 4, "X", "", "YZ", "w")
	holds(t, d, "...aXYZw")
	put(t, d, 62, "e", "f")
	holds(t, d, "...aXYZw"+strings.Repeat(".", 54)+"ef")
	if p.Writes() != 3 {
		t.Errorf("%d writes; want one for each Write, of however many parts", p.Writes())
	}
}

func TestP402WriteWhole(t *testing.T) {
	p, d := fresh(t, 64)
	all := strings.Repeat("flintarr", 8)
	put(t, d, 0, all)
	holds(t, d, all)
	put(t, d, 0, all[1:33], all[:32])
	holds(t, d, all[1:33]+all[:32])
	pends(t, d, 128)
	if p.Writes() != 2 {
		t.Errorf("%d writes", p.Writes())
	}
}

func TestP402WriteWithoutBytes(t *testing.T) {
	p, d := fresh(t, 64)
	for i, parts := range [][][]byte{nil, {nil}, {{}, {}}} {
		for _, at := range []int{0, 30, 64} {
			if e := d.Write(at, parts...); e != api.OK {
				t.Errorf("Write(%d) of no bytes: %v", at, e)
			}
		}
		for _, at := range []int{-1, 65, math.MinInt, math.MaxInt} {
			if e := d.Write(at, parts...); e != api.ErrArg {
				t.Errorf("Write(%d) of no bytes: %v; want arg", at, e)
			}
		}
		if p.Writes() != 3*(i+1) {
			t.Errorf("%d writes: one without bytes is likewise a write", p.Writes())
		}
	}
	holds(t, d, "")
	pends(t, d, 0)
	p.Arm(1)
	if e := d.Write(0); e != api.ErrDown || !p.Off() {
		t.Errorf("armed: %v; want down", e)
	}
}

func TestP402WriteErrors(t *testing.T) {
	p, d := fresh(t, 64)
	put(t, d, 0, "ab")
	p.Arm(2)
	for _, c := range []struct {
		at   int
		lens []int
	}{
		{-1, []int{1}}, {-1, []int{65}}, {0, []int{65}}, {1, []int{64}}, {63, []int{2}}, {64, []int{1}}, {65, []int{1}},
		{0, []int{32, 33}}, {0, []int{64, 1}}, {60, []int{1, 1, 1, 1, 1}}, {10, []int{100, 1}}, {-2, []int{2, 2}}, {62, []int{2, 0, 1}},
		{math.MaxInt, []int{1}}, {math.MaxInt, []int{1, 64}}, {math.MinInt, []int{1}}, {math.MinInt, []int{64}},
	} {
		var parts [][]byte
		for _, n := range c.lens {
			parts = append(parts, bytes.Repeat([]byte{9}, n))
		}
		if e := d.Write(c.at, parts...); e != api.ErrArg {
			t.Errorf("Write(%d) of %v bytes: %v; want arg", c.at, c.lens, e)
		}
	}
	holds(t, d, "ab")
	pends(t, d, 2)
	if p.Writes() != 1 {
		t.Errorf("%d writes: what is refused asks for none", p.Writes())
	}
	put(t, d, 0, "c")
	if e := d.Write(0); e != api.ErrDown {
		t.Errorf("%v: what is refused is not counted towards the armed write", e)
	}
}

func TestP402Persist(t *testing.T) {
	p, d := fresh(t, 64)
	put(t, d, 0, "abcd")
	put(t, d, 2, "xyz")
	persist(t, d)
	pends(t, d, 0)
	if p.Writes() != 3 {
		t.Errorf("%d writes: Persist is one", p.Writes())
	}
	persist(t, d)
	if p.Writes() != 4 {
		t.Errorf("%d writes: with nothing to persist it is one, too", p.Writes())
	}
	for _, picks := range [][]int{nil, {-1}, {0}, {3}, {5, 5}} {
		d.Cut(picks...)
		holds(t, d, "abxyz")
	}
	put(t, d, 1, "Q")
	down(p)
	p.On()
	holds(t, d, "abxyz")
}

func TestP402Read(t *testing.T) {
	p, d := fresh(t, 64)
	put(t, d, 10, "abcdef")
	persist(t, d)
	put(t, d, 12, "XY")
	p.Arm(1)
	was := p.Writes()
	for _, c := range []struct {
		at, n int
		want  string
		e     api.Errno
	}{
		{10, 6, "abXYef", api.OK}, {12, 1, "X", api.OK}, {15, 2, "f\x00", api.OK}, {63, 1, "\x00", api.OK},
		{0, 0, "", api.OK}, {64, 0, "", api.OK}, {12, 0, "", api.OK},
		{-1, 1, "", api.ErrArg}, {-1, 0, "", api.ErrArg}, {0, -1, "", api.ErrArg}, {12, -2, "", api.ErrArg}, {64, -1, "", api.ErrArg},
		{0, 65, "", api.ErrArg}, {63, 2, "", api.ErrArg}, {64, 1, "", api.ErrArg}, {65, 0, "", api.ErrArg}, {65, -1, "", api.ErrArg},
		{math.MaxInt, 1, "", api.ErrArg}, {1, math.MaxInt, "", api.ErrArg}, {math.MaxInt, math.MaxInt, "", api.ErrArg},
		{math.MinInt, math.MinInt, "", api.ErrArg}, {math.MinInt, math.MaxInt, "", api.ErrArg}, {0, math.MinInt, "", api.ErrArg},
	} {
		b, e := d.Read(c.at, c.n)
		if e != c.e || string(b) != c.want {
			t.Errorf("Read(%d, %d): %q, %v; want %q, %v", c.at, c.n, b, e, c.want, c.e)
		}
	}
	if p.Off() || p.Writes() != was {
		t.Error("Read is no write")
	}
}

func TestP402WithoutPower(t *testing.T) {
	p, d := fresh(t, 64)
	put(t, d, 0, "ab")
	persist(t, d)
	down(p)
	was := p.Writes()
	p.Arm(1)
	for _, at := range []int{0, 63, 64, 65, -1} { // down comes ahead of arg
		if e := d.Write(at, []byte("xy")); e != api.ErrDown {
			t.Errorf("Write(%d): %v; want down", at, e)
		}
		if b, e := d.Read(at, 2); e != api.ErrDown || len(b) != 0 {
			t.Errorf("Read(%d): %q, %v; want down", at, b, e)
		}
	}
	if e := d.Persist(); e != api.ErrDown {
		t.Errorf("Persist: %v; want down", e)
	}
	if d.Size() != 64 || p.Writes() != was || !p.Off() {
		t.Errorf("%d bytes, %d writes, off %v", d.Size(), p.Writes()-was, p.Off())
	}
	pends(t, d, 0)
	p.On()
	holds(t, d, "ab")
	if e := d.Write(0, []byte("x")); e != api.ErrDown {
		t.Errorf("%v: what is armed is still armed", e)
	}
}

func TestP402WriteThatIsCutDoesNothing(t *testing.T) {
	p, d := fresh(t, 64)
	put(t, d, 0, "ab")
	persist(t, d)
	put(t, d, 1, "xyz")
	p.Arm(1, 2)
	if e := d.Write(0, []byte("QQQQQQ")); e != api.ErrDown || !p.Off() {
		t.Errorf("%v; want down", e)
	}
	pends(t, d, 0)
	p.On()
	holds(t, d, "axy")
}

func TestP402PersistThatIsCutDoesNothing(t *testing.T) {
	p, d := fresh(t, 64)
	put(t, d, 0, "abc")
	p.Arm(1, 1)
	if e := d.Persist(); e != api.ErrDown || !p.Off() {
		t.Errorf("%v; want down", e)
	}
	p.On()
	holds(t, d, "a")
	pends(t, d, 0)
}
