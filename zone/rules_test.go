package zone_test

import (
	"bytes"
	"math"
	"math/rand/v2"
	"slices"
	"strconv"
	"testing"

	"flint/api"
	"flint/zone"
)

// A shadow is what a drive must be, told in the plainest way: each page with whether it was flushed.
type shadow struct {
	zones [][]sheet
	pages int
	size  int
	lost  bool
}

type sheet struct {
	bytes   string
	flushed bool
}

// A world is two drives on one power, and what they must be.
type world struct {
	power   *zone.Power
	drives  []*zone.Drive
	shadows []*shadow
	off     bool
	armed   int // 0: nothing is
	picks   []int
	writes  int
}

func newWorld(t *testing.T) *world {
	t.Helper()
	w := &world{power: zone.NewPower()}
	for _, zones := range []int{3, 1} {
		d, e := zone.New(w.power, zones, 4, 32)
		if e != api.OK {
			t.Fatalf("%v", e)
		}
		w.drives = append(w.drives, d)
		w.shadows = append(w.shadows, &shadow{zones: make([][]sheet, zones), pages: 4, size: 32})
	}
	return w
}

// write tells what Write must.
func (w *world) write() bool {
	switch {
	case w.off:
		return false
	case w.armed == 1:
		w.off, w.armed = true, 0
		for _, s := range w.shadows {
			s.cut(w.picks)
		}
		return false
	case w.armed > 1:
		w.armed--
	}
	w.writes++
	return true
}

func (s *shadow) cut(picks []int) {
	for z, l := range s.zones {
		at := 0
		for at < len(l) && l[at].flushed {
			at++
		}
		n := len(l) - at
		if n == 0 {
			continue
		}
		keep := 0
		if len(picks) > 0 {
			if picks[0] > 0 {
				keep = picks[0] % (n + 1)
			}
			picks = picks[1:]
		}
		s.zones[z] = l[:at+keep]
		s.flush(z)
	}
}

func (s *shadow) flush(z int) {
	for i := range s.zones[z] {
		s.zones[z][i].flushed = true
	}
}

func (s *shadow) blank(lost bool) {
	s.lost = lost
	for z := range s.zones {
		s.zones[z] = nil
	}
}

// why tells what keeps a drive from a call on zone z.
func (w *world) why(s *shadow, z int) api.Errno {
	switch {
	case w.off:
		return api.ErrDown
	case s.lost:
		return api.ErrLost
	case z < 0 || z >= len(s.zones):
		return api.ErrArg
	}
	return api.OK
}

// append, reset, flush tell what these calls must.
func (w *world) append(s *shadow, z int, b []byte) api.Errno {
	e := w.why(s, z)
	switch {
	case e != api.OK:
		return e
	case len(b) != s.size:
		return api.ErrArg
	case len(s.zones[z]) == s.pages:
		return api.ErrFull
	case !w.write():
		return api.ErrDown
	}
	s.zones[z] = append(s.zones[z], sheet{bytes: string(b)})
	return api.OK
}

func (w *world) reset(s *shadow, z int) api.Errno {
	if e := w.why(s, z); e != api.OK {
		return e
	}
	if !w.write() {
		return api.ErrDown
	}
	s.zones[z] = nil
	return api.OK
}

func (w *world) flush(s *shadow) api.Errno {
	if e := w.why(s, 0); e != api.OK {
		return e
	}
	if !w.write() {
		return api.ErrDown
	}
	for z := range s.zones {
		s.flush(z)
	}
	return api.OK
}

func (s *shadow) rot(z, n, bit int) bool {
	if z < 0 || z >= len(s.zones) || n < 0 || n >= len(s.zones[z]) {
		return false
	}
	b := []byte(s.zones[z][n].bytes)
	if bit < 0 {
		bit = 0
	}
	bit %= len(b) * 8
	b[bit/8] ^= byte(1) << uint(bit%8)
	s.zones[z][n].bytes = string(b)
	return true
}

// same asks that a drive is as its shadow.
func (w *world) same(t *testing.T, what string) {
	t.Helper()
	if w.power.Off() != w.off || w.power.Writes() != w.writes {
		t.Fatalf("%s: off %v, %d writes; want %v, %d", what, w.power.Off(), w.power.Writes(), w.off, w.writes)
	}
	for i, d := range w.drives {
		s := w.shadows[i]
		if d.Lost() != s.lost {
			t.Fatalf("%s: drive %d: lost %v", what, i, d.Lost())
		}
		for z := -1; z <= len(s.zones); z++ {
			w.sameZone(t, what, d, s, z)
		}
	}
}

func (w *world) sameZone(t *testing.T, what string, d *zone.Drive, s *shadow, z int) {
	t.Helper()
	why, had := w.why(s, z), 0
	if why == api.OK {
		had = len(s.zones[z])
	}
	if n, e := d.Pointer(z); n != had || e != why {
		t.Fatalf("%s: Pointer(%d): %d, %v; want %d, %v", what, z, n, e, had, why)
	}
	for n := -1; n <= s.pages; n++ {
		want, e := "", why
		if why == api.OK {
			e = api.ErrNone
		}
		if n >= 0 && n < had {
			want, e = s.zones[z][n].bytes, api.OK
		}
		if b, got := d.Read(z, n); string(b) != want || got != e {
			t.Fatalf("%s: Read(%d, %d): % X, %v; want % X, %v", what, z, n, b, got, want, e)
		}
	}
}

// step does one thing that r says to a drive and to its shadow.
func (w *world) step(t *testing.T, r *rand.Rand, n int) string {
	t.Helper()
	i := r.IntN(2)
	d, s := w.drives[i], w.shadows[i]
	z := r.IntN(len(s.zones)+2) - 1
	agree := func(what string, got, want api.Errno) string {
		t.Helper()
		if got != want {
			t.Fatalf("step %d: %s: %v; want %v", n, what, got, want)
		}
		return what
	}
	switch k := r.IntN(40); {
	case k < 22:
		b := noise(uint64(n), 32)
		if r.IntN(20) == 0 {
			b = b[:31]
		}
		return agree("Append", d.Append(z, b), w.append(s, z, b))
	case k < 24:
		return agree("Reset", d.Reset(z), w.reset(s, z))
	case k < 27:
		return agree("Flush", d.Flush(), w.flush(s))
	case k < 29:
		picks := anyPicks(r)
		d.Cut(picks...)
		s.cut(picks)
		return "Cut"
	case k < 30:
		d.Lose()
		s.blank(true)
		return "Lose"
	case k < 31:
		d.Replace()
		s.blank(false)
		return "Replace"
	case k < 33:
		page, bit := r.IntN(5)-1, r.IntN(600)-40
		if d.Rot(z, page, bit) != s.rot(z, page, bit) {
			t.Fatalf("step %d: Rot(%d, %d, %d)", n, z, page, bit)
		}
		return "Rot"
	case k < 35:
		w.picks = anyPicks(r)
		w.armed = r.IntN(6)
		w.power.Arm(w.armed, w.picks...)
		w.armed = max(w.armed, 1)
		return "Arm"
	case k < 36:
		if w.power.Write() != w.write() {
			t.Fatalf("step %d: Write", n)
		}
		return "Write"
	}
	w.power.On()
	w.off = false
	return "On"
}

func anyPicks(r *rand.Rand) []int {
	var l []int
	for range r.IntN(5) {
		l = append(l, r.IntN(12)-2)
	}
	return l
}

// noise tells n bytes that are the same ones for the same seed.
func noise(seed uint64, n int) []byte {
	r := rand.New(rand.NewPCG(seed, 3))
	b := make([]byte, n)
	for i := range b {
		b[i] = byte(r.Uint32())
	}
	return b
}

func TestP301ToP305AnyCalls(t *testing.T) {
	for seed := range uint64(60) {
		w, r := newWorld(t), rand.New(rand.NewPCG(seed, 4))
		for n := range 300 {
			what := w.step(t, r, n)
			w.same(t, "seed "+strconv.FormatUint(seed, 10)+", step "+strconv.Itoa(n)+", "+what)
		}
	}
}

// P306: a front of each zone is kept by a cut, all that was flushed in it.
func TestP306FlushedPagesAreReadBehindCuts(t *testing.T) {
	for seed := range uint64(200) {
		r := rand.New(rand.NewPCG(seed, 5))
		p, d := fresh(t, 4, 16, 32)
		firm := make([]int, 4)
		for range 6 {
			p.Arm(1+r.IntN(30), anyPicks(r)...)
			firm = work(d, r, firm)
			p.On()
			for z, n := range pointers(d) {
				if n < firm[z] {
					t.Fatalf("seed %d: zone %d: %d pages, %d of them were flushed", seed, z, n, firm[z])
				}
				holds(t, d, z, n)
				firm[z] = n // what a cut keeps outlasts the next
			}
		}
	}
}

// work appends and flushes till the power goes, and tells how many pages of each zone must be kept.
func work(d *zone.Drive, r *rand.Rand, firm []int) []int {
	for {
		var e api.Errno
		z := r.IntN(4)
		had, _ := d.Pointer(z)
		was := pointers(d)
		switch r.IntN(12) {
		case 0:
			if e = d.Flush(); e == api.OK {
				firm = was
			}
		case 1:
			if e = d.Reset(z); e == api.OK {
				firm[z] = 0
			}
		default:
			e = d.Append(z, page(32, had))
		}
		if e == api.ErrDown {
			return firm
		}
	}
}

func TestP1AnyNumbersAreTaken(t *testing.T) {
	edges := []int{math.MinInt, math.MinInt32, -2, -1, 0, 1, 2, 31, 32, 256, 4095, 4096, 4097, math.MaxInt32, math.MaxInt}
	p, d := fresh(t, 2, 2, 32)
	fill(t, d, 0, 2)
	for _, a := range edges {
		p.Arm(a, edges...)
		p.Write()
		p.On()
		d.Cut(edges...)
		for _, b := range edges {
			d.Read(a, b)
			d.Pointer(a)
			for _, c := range edges {
				d.Rot(a, b, c)
				right := a >= 1 && a <= 4096 && b >= 1 && b <= 4096 && c >= 32 && c <= 65536
				if x, e := zone.New(zone.NewPower(), a, b, c); (e == api.OK) != right || (x != nil) != right {
					t.Fatalf("New(%d, %d, %d): %v", a, b, c, e)
				}
			}
		}
	}
}

func TestP2PagesHandedInAreNotChangedOrKept(t *testing.T) {
	_, d := fresh(t, 1, 3, 32)
	in := append(make([]byte, 0, 64), page(32, 1)...)
	was := bytes.Clone(in[:64])
	d.Append(0, in)
	d.Append(0, page(32, 2))
	if !bytes.Equal(in[:64], was) {
		t.Error("Append changes its page, or its spare room")
	}
	clear(in[:64])
	if b, _ := d.Read(0, 0); !bytes.Equal(b, page(32, 1)) {
		t.Error("the page hangs on bytes that were handed in")
	}
}

func TestP2PicksHandedInAreNotChanged(t *testing.T) {
	_, d := fresh(t, 2, 3, 32)
	fill(t, d, 0, 2)
	fill(t, d, 1, 2)
	picks := append(make([]int, 0, 9), 1, 2, 3)
	was := slices.Clone(picks[:9])
	d.Cut(picks...)
	if !slices.Equal(picks[:9], was) {
		t.Errorf("%v; before %v", picks[:9], was)
	}
}

func TestP2AnswersAreNewMemory(t *testing.T) {
	_, d := fresh(t, 1, 3, 32)
	fill(t, d, 0, 2)
	first, _ := d.Read(0, 0)
	second, _ := d.Read(0, 0)
	clear(first[:cap(first)])
	if !bytes.Equal(second, page(32, 0)) {
		t.Error("two answers share memory")
	}
	holds(t, d, 0, 2)
}

func TestP7DrivesAreTheirOwn(t *testing.T) {
	p, a := fresh(t, 1, 3, 32)
	b, _ := zone.New(p, 1, 3, 32)
	fill(t, a, 0, 2)
	holds(t, b, 0, 0)
	b.Lose()
	holds(t, a, 0, 2)
	other, c := fresh(t, 1, 3, 32)
	other.Arm(1)
	other.Write()
	if p.Off() {
		t.Error("two powers are one")
	}
	if _, e := c.Pointer(0); e != api.ErrDown {
		t.Errorf("%v; want down", e)
	}
}
