package nvram_test

import (
	"bytes"
	"math"
	"math/rand/v2"
	"slices"
	"strconv"
	"testing"

	"flint/api"
	"flint/nvram"
	"flint/zone"
)

// A shadow is what a device must be, told in the plainest way: the bytes that are persisted, and each byte written since.
type shadow struct {
	firm  []byte
	loose []mark
}

type mark struct {
	at   int
	byte byte
}

// front tells the bytes that the first n loose marks make.
func (s *shadow) front(n int) []byte {
	b := bytes.Clone(s.firm)
	for _, m := range s.loose[:n] {
		b[m.at] = m.byte
	}
	return b
}

func (s *shadow) cut(picks []int) {
	n := 0
	if len(picks) > 0 && picks[0] >= 0 {
		n = picks[0] % (len(s.loose) + 1)
	}
	s.firm, s.loose = s.front(n), nil
}

// A world is two devices on one power, and what they must be.
type world struct {
	power   *zone.Power
	devices []*nvram.Device
	shadows []*shadow
	off     bool
	armed   int // 0: nothing is
	picks   []int
	writes  int
}

func newWorld(t *testing.T) *world {
	t.Helper()
	w := &world{power: zone.NewPower()}
	for _, size := range []int{64, 75} {
		d, e := nvram.New(w.power, size)
		if e != api.OK {
			t.Fatalf("%v", e)
		}
		w.devices = append(w.devices, d)
		w.shadows = append(w.shadows, &shadow{firm: make([]byte, size)})
	}
	return w
}

// ask tells what the power's Write must.
func (w *world) ask() bool {
	switch {
	case w.off:
		return false
	case w.armed == 1:
		w.off, w.armed = true, 0
		for _, s := range w.shadows {
			s.cut(w.picks)
		}
		return false
	case w.armed > 1:
		w.armed--
	}
	w.writes++
	return true
}

// write, persist, read tell what these calls must.
func (w *world) write(s *shadow, at int, b []byte) api.Errno {
	switch {
	case w.off:
		return api.ErrDown
	case at < 0 || at+len(b) > len(s.firm):
		return api.ErrArg
	case !w.ask():
		return api.ErrDown
	}
	for i, c := range b {
		s.loose = append(s.loose, mark{at + i, c})
	}
	return api.OK
}

func (w *world) persist(s *shadow) api.Errno {
	if !w.ask() {
		return api.ErrDown
	}
	s.firm, s.loose = s.front(len(s.loose)), nil
	return api.OK
}

func (w *world) read(s *shadow, at, n int) ([]byte, api.Errno) {
	switch {
	case w.off:
		return nil, api.ErrDown
	case at < 0 || n < 0 || at+n > len(s.firm):
		return nil, api.ErrArg
	}
	return s.front(len(s.loose))[at : at+n], api.OK
}

// same asks that the devices are as their shadows.
func (w *world) same(t *testing.T, what string) {
	t.Helper()
	if w.power.Off() != w.off || w.power.Writes() != w.writes {
		t.Fatalf("%s: off %v, %d writes; want %v, %d", what, w.power.Off(), w.power.Writes(), w.off, w.writes)
	}
	for i, d := range w.devices {
		s := w.shadows[i]
		if d.Pending() != len(s.loose) || d.Size() != len(s.firm) {
			t.Fatalf("%s: device %d: %d pending of %d bytes; want %d of %d", what, i, d.Pending(), d.Size(), len(s.loose), len(s.firm))
		}
		want, e := w.read(s, 0, len(s.firm))
		if b, got := d.Read(0, len(s.firm)); !bytes.Equal(b, want) || got != e {
			t.Fatalf("%s: device %d: % X, %v; want % X, %v", what, i, b, got, want, e)
		}
	}
}

// step does one thing that r says to a device and to its shadow.
func (w *world) step(t *testing.T, r *rand.Rand) string {
	t.Helper()
	i := r.IntN(2)
	d, s := w.devices[i], w.shadows[i]
	at := r.IntN(len(s.firm)+4) - 2
	agree := func(what string, got, want api.Errno) string {
		t.Helper()
		if got != want {
			t.Fatalf("%s: %v; want %v", what, got, want)
		}
		return what
	}
	switch k := r.IntN(40); {
	case k < 22:
		parts := anyParts(r)
		return agree("Write", d.Write(at, parts...), w.write(s, at, bytes.Join(parts, nil)))
	case k < 25:
		return agree("Persist", d.Persist(), w.persist(s))
	case k < 28:
		n := r.IntN(len(s.firm)+4) - 2
		b, e := d.Read(at, n)
		want, why := w.read(s, at, n)
		if !bytes.Equal(b, want) {
			t.Fatalf("Read(%d, %d): % X; want % X", at, n, b, want)
		}
		return agree("Read", e, why)
	case k < 32:
		picks := anyPicks(r)
		d.Cut(picks...)
		s.cut(picks)
		return "Cut"
	case k < 35:
		w.picks = anyPicks(r)
		w.armed = r.IntN(6)
		w.power.Arm(w.armed, w.picks...)
		w.armed = max(w.armed, 1)
		return "Arm"
	}
	w.power.On()
	w.off = false
	return "On"
}

func anyParts(r *rand.Rand) [][]byte {
	var l [][]byte
	for range r.IntN(4) {
		b := make([]byte, r.IntN(12))
		for i := range b {
			b[i] = byte(r.Uint32())
		}
		l = append(l, b)
	}
	return l
}

func anyPicks(r *rand.Rand) []int {
	var l []int
	for range r.IntN(3) {
		l = append(l, r.IntN(150)-10)
	}
	return l
}

func TestP401ToP404AnyCalls(t *testing.T) {
	for seed := range uint64(60) {
		w, r := newWorld(t), rand.New(rand.NewPCG(seed, 6))
		for n := range 400 {
			what := w.step(t, r)
			w.same(t, "seed "+strconv.FormatUint(seed, 10)+", step "+strconv.Itoa(n)+", "+what)
		}
	}
}

func TestP1AnyNumbersAreTaken(t *testing.T) {
	edges := []int{math.MinInt, math.MinInt32, -64, -1, 0, 1, 2, 63, 64, 65, 1 << 26, math.MaxInt32, math.MaxInt}
	p, d := fresh(t, 64)
	for _, a := range edges {
		put(t, d, 3, "abc")
		d.Cut(a)
		put(t, d, 3, "abc")
		p.Arm(a, edges...)
		for range 100 {
			d.Write(a)
			d.Write(a, []byte("xy"), nil, []byte("z"))
			d.Persist()
		}
		p.On()
		for _, b := range edges {
			d.Read(a, b)
		}
		nvram.New(p, a)
	}
}

func TestP2PartsHandedInAreNotChangedOrKept(t *testing.T) {
	_, d := fresh(t, 64)
	in := append(make([]byte, 0, 20), "abcd"...)
	parts := append(make([][]byte, 0, 4), in[:2], in[1:4])
	whole := bytes.Clone(in[:20])
	d.Write(0, parts...)
	put(t, d, 1, "XY")
	d.Cut(6)
	if !bytes.Equal(in[:20], whole) {
		t.Errorf("Write changes its bytes, or their spare room: %q", in[:20])
	}
	if string(parts[0]) != "ab" || string(parts[1]) != "bcd" || parts[:4][2] != nil || parts[:4][3] != nil {
		t.Errorf("Write changes its parts, or their spare room: %q", parts[:4])
	}
	clear(in[:20])
	parts[0] = nil
	holds(t, d, "aXbcd")
}

// What a cut puts back hangs on no bytes that were handed in either.
func TestP2CutsDoNotHangOnWhatWasHandedIn(t *testing.T) {
	_, d := fresh(t, 64)
	first, second := []byte("abcd"), []byte("wxyz")
	d.Write(0, first)
	d.Write(2, second)
	clear(first)
	clear(second)
	d.Cut(6)
	holds(t, d, "abwx")
}

func TestP2PicksHandedInAreNotChanged(t *testing.T) {
	_, d := fresh(t, 64)
	put(t, d, 0, "abc")
	picks := append(make([]int, 0, 9), 5, 2, 3)
	was := slices.Clone(picks[:9])
	d.Cut(picks...)
	if !slices.Equal(picks[:9], was) {
		t.Errorf("%v; before %v", picks[:9], was)
	}
}

func TestP2AnswersAreNewMemory(t *testing.T) {
	_, d := fresh(t, 64)
	put(t, d, 0, "abcdef")
	first, _ := d.Read(1, 3)
	second, _ := d.Read(1, 3)
	none, _ := d.Read(2, 0)
	clear(first[:cap(first)])
	clear(none[:cap(none)])
	holds(t, d, "abcdef")
	if string(second) != "bcd" {
		t.Errorf("%q: two answers share memory", second)
	}
	put(t, d, 1, "X")
	d.Cut(0)
	if string(second) != "bcd" {
		t.Errorf("%q: an answer changes behind its call", second)
	}
}

func TestP5ErrorsChangeNothing(t *testing.T) {
	_, d := fresh(t, 64)
	put(t, d, 0, "ab")
	persist(t, d)
	put(t, d, 1, "xy")
	d.Write(60, []byte("abc"), []byte("de"))
	d.Write(-1, []byte("abc"))
	d.Read(64, 1)
	holds(t, d, "axy")
	pends(t, d, 2)
	d.Cut(1)
	holds(t, d, "ax")
}

func TestP7DevicesAreTheirOwn(t *testing.T) {
	p, a := fresh(t, 64)
	b, _ := nvram.New(p, 64)
	put(t, a, 0, "ab")
	holds(t, b, "")
	pends(t, b, 0)
	persist(t, b)
	pends(t, a, 2)
	a.Cut()
	put(t, b, 0, "xy")
	pends(t, a, 0)
	other, c := fresh(t, 64)
	down(other)
	if p.Off() {
		t.Error("two powers are one")
	}
	if _, e := c.Read(0, 1); e != api.ErrDown {
		t.Errorf("%v; want down", e)
	}
	holds(t, b, "xy")
}
