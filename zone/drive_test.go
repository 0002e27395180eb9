package zone_test

import (
	"bytes"
	"math"
	"testing"

	"flint/api"
	"flint/zone"
)

// page tells one of size bytes that says its number.
func page(size, n int) []byte {
	b := make([]byte, size)
	for i := range b {
		b[i] = byte(n*37 + i*n)
	}
	b[0] = byte(n)
	return b
}

// fresh tells a drive of such a shape, and its power.
func fresh(t *testing.T, zones, pages, size int) (*zone.Power, *zone.Drive) {
	t.Helper()
	p := zone.NewPower()
	d, e := zone.New(p, zones, pages, size)
	if e != api.OK || d == nil {
		t.Fatalf("New(%d, %d, %d): %v", zones, pages, size, e)
	}
	return p, d
}

// fill appends n pages, numbered on from what the zone has.
func fill(t *testing.T, d *zone.Drive, z, n int) {
	t.Helper()
	_, _, size := d.Shape()
	had, _ := d.Pointer(z)
	for i := range n {
		if e := d.Append(z, page(size, had+i)); e != api.OK {
			t.Fatalf("Append to zone %d: %v", z, e)
		}
	}
}

// holds asks that zone z has n pages, those that fill appended.
func holds(t *testing.T, d *zone.Drive, z, n int) {
	t.Helper()
	_, _, size := d.Shape()
	if got, e := d.Pointer(z); got != n || e != api.OK {
		t.Errorf("Pointer(%d): %d, %v; want %d", z, got, e, n)
	}
	for i := range n {
		if b, e := d.Read(z, i); !bytes.Equal(b, page(size, i)) || e != api.OK {
			t.Errorf("Read(%d, %d): % X, %v", z, i, b, e)
		}
	}
	if b, e := d.Read(z, n); len(b) != 0 || e != api.ErrNone {
		t.Errorf("Read(%d, %d): %d bytes, %v; want none", z, n, len(b), e)
	}
}

func TestP302New(t *testing.T) {
	for _, c := range []struct {
		zones, pages, size int
		want               api.Errno
	}{
		{1, 1, 32, api.OK}, {2, 3, 33, api.OK}, {4096, 4096, 65536, api.OK},
		{0, 1, 32, api.ErrArg}, {-1, 1, 32, api.ErrArg}, {4097, 1, 32, api.ErrArg},
		{1, 0, 32, api.ErrArg}, {1, -1, 32, api.ErrArg}, {1, 4097, 32, api.ErrArg},
		{1, 1, 31, api.ErrArg}, {1, 1, 0, api.ErrArg}, {1, 1, -32, api.ErrArg}, {1, 1, 65537, api.ErrArg},
		{math.MaxInt, 1, 32, api.ErrArg}, {math.MinInt, math.MinInt, math.MinInt, api.ErrArg}, {1, math.MaxInt, 32, api.ErrArg}, {1, 1, math.MaxInt, api.ErrArg},
	} {
		d, e := zone.New(zone.NewPower(), c.zones, c.pages, c.size)
		if e != c.want || (d != nil) != (e == api.OK) {
			t.Fatalf("%v: a drive %v, %v", c, d != nil, e)
		}
		if d == nil {
			continue
		}
		if z, p, s := d.Shape(); z != c.zones || p != c.pages || s != c.size {
			t.Errorf("%v: Shape: %d, %d, %d", c, z, p, s)
		}
		for _, z := range []int{0, c.zones - 1} {
			holds(t, d, z, 0)
		}
	}
}

func TestP302NewWithoutPower(t *testing.T) {
	p := zone.NewPower()
	p.Arm(1)
	p.Write()
	d, e := zone.New(p, 2, 3, 32)
	if d == nil || e != api.OK {
		t.Fatalf("%v", e)
	}
	if _, e := d.Pointer(0); e != api.ErrDown {
		t.Errorf("Pointer: %v; want down", e)
	}
	p.On()
	holds(t, d, 0, 0)
}

func TestP302NewIsAttached(t *testing.T) {
	p, d := fresh(t, 1, 3, 32)
	fill(t, d, 0, 2)
	p.Arm(1)
	p.Write()
	p.On()
	holds(t, d, 0, 0)
}

func TestP302NewWritesNothing(t *testing.T) {
	p, _ := fresh(t, 2, 3, 32)
	zone.New(p, 0, 0, 0)
	if p.Writes() != 0 {
		t.Errorf("%d writes", p.Writes())
	}
}

func TestP303Append(t *testing.T) {
	p, d := fresh(t, 3, 4, 40)
	fill(t, d, 1, 3)
	fill(t, d, 0, 1)
	fill(t, d, 1, 1)
	holds(t, d, 0, 1)
	holds(t, d, 1, 4)
	holds(t, d, 2, 0)
	if p.Writes() != 5 {
		t.Errorf("%d writes; want one for each Append", p.Writes())
	}
}

func TestP303AppendErrors(t *testing.T) {
	p, d := fresh(t, 2, 2, 32)
	fill(t, d, 0, 2)
	for _, c := range []struct {
		what string
		zone int
		page []byte
		want api.Errno
	}{
		{"no such zone", 2, page(32, 0), api.ErrArg},
		{"a zone below 0", -1, page(32, 0), api.ErrArg},
		{"a zone far off", math.MaxInt, page(32, 0), api.ErrArg},
		{"a zone far below", math.MinInt, page(32, 0), api.ErrArg},
		{"a byte less", 1, page(31, 0), api.ErrArg},
		{"a byte more", 1, page(33, 0), api.ErrArg},
		{"no bytes", 1, nil, api.ErrArg},
		{"full", 0, page(32, 0), api.ErrFull},
		{"full, and no page: the first error", 0, page(31, 0), api.ErrArg},
	} {
		if e := d.Append(c.zone, c.page); e != c.want {
			t.Errorf("%s: %v; want %v", c.what, e, c.want)
		}
	}
	holds(t, d, 0, 2)
	holds(t, d, 1, 0)
	if p.Writes() != 2 {
		t.Errorf("%d writes; want 2: what is refused asks for none", p.Writes())
	}
}

// ErrFull is of pages, whether they were flushed or not, and ends by a Reset or a cut.
func TestP303AZoneIsFull(t *testing.T) {
	p, d := fresh(t, 2, 3, 32)
	fill(t, d, 0, 2)
	d.Flush()
	fill(t, d, 0, 1)
	if e := d.Append(0, page(32, 3)); e != api.ErrFull {
		t.Errorf("%v; want full", e)
	}
	fill(t, d, 1, 3)
	d.Cut(0, 1)
	fill(t, d, 0, 1)
	fill(t, d, 1, 2)
	holds(t, d, 0, 3)
	holds(t, d, 1, 3)
	if e := d.Append(1, page(32, 3)); e != api.ErrFull {
		t.Errorf("%v; want full", e)
	}
	d.Reset(0)
	fill(t, d, 0, 3)
	holds(t, d, 0, 3)
	if p.Off() {
		t.Error("Cut puts the power off")
	}
}

func TestP303Reset(t *testing.T) {
	p, d := fresh(t, 2, 4, 32)
	fill(t, d, 0, 2)
	fill(t, d, 1, 2)
	d.Flush()
	fill(t, d, 0, 1)
	was := p.Writes()
	if e := d.Reset(0); e != api.OK || p.Writes() != was+1 {
		t.Errorf("%v, %d writes", e, p.Writes()-was)
	}
	holds(t, d, 0, 0)
	holds(t, d, 1, 2)
	if e := d.Reset(0); e != api.OK || p.Writes() != was+2 {
		t.Errorf("without pages: %v, %d writes: a write, too", e, p.Writes()-was)
	}
	for _, z := range []int{-1, 2, math.MinInt, math.MaxInt} {
		if e := d.Reset(z); e != api.ErrArg || p.Writes() != was+2 {
			t.Errorf("Reset(%d): %v", z, e)
		}
	}
}

func TestP303ResetOutlastsCutsAtOnce(t *testing.T) {
	p, d := fresh(t, 2, 4, 32)
	fill(t, d, 0, 3)
	d.Flush()
	d.Reset(0)
	p.Arm(1, 9)
	if e := d.Reset(1); e != api.ErrDown {
		t.Errorf("%v", e)
	}
	p.On()
	holds(t, d, 0, 0)
	fill(t, d, 0, 2)
	d.Cut(1)
	holds(t, d, 0, 1)
}

func TestP303ResetThatIsCutDoesNothing(t *testing.T) {
	p, d := fresh(t, 1, 4, 32)
	fill(t, d, 0, 3)
	d.Flush()
	p.Arm(1)
	if e := d.Reset(0); e != api.ErrDown {
		t.Errorf("%v; want down", e)
	}
	p.On()
	holds(t, d, 0, 3)
}

func TestP303Flush(t *testing.T) {
	p, d := fresh(t, 3, 4, 32)
	fill(t, d, 0, 2)
	fill(t, d, 2, 4)
	was := p.Writes()
	if e := d.Flush(); e != api.OK || p.Writes() != was+1 {
		t.Errorf("%v, %d writes; want one for all zones", e, p.Writes()-was)
	}
	if e := d.Flush(); e != api.OK || p.Writes() != was+2 {
		t.Errorf("nothing to flush: %v, %d writes: a write, too", e, p.Writes()-was)
	}
	fill(t, d, 0, 1)
	d.Cut()
	holds(t, d, 0, 2)
	holds(t, d, 1, 0)
	holds(t, d, 2, 4)
}

func TestP303FlushThatIsCutDoesNothing(t *testing.T) {
	p, d := fresh(t, 1, 4, 32)
	fill(t, d, 0, 3)
	p.Arm(1, 1)
	if e := d.Flush(); e != api.ErrDown {
		t.Errorf("%v; want down", e)
	}
	p.On()
	holds(t, d, 0, 1)
}

func TestP303FlushIsOfOneDrive(t *testing.T) {
	p, a := fresh(t, 1, 4, 32)
	b, _ := zone.New(p, 1, 4, 32)
	fill(t, a, 0, 2)
	fill(t, b, 0, 2)
	a.Flush()
	p.Arm(1)
	p.Write()
	p.On()
	holds(t, a, 0, 2)
	holds(t, b, 0, 0)
}

func TestP304Read(t *testing.T) {
	p, d := fresh(t, 2, 3, 32)
	fill(t, d, 1, 2)
	for _, c := range []struct {
		zone, page int
		want       api.Errno
	}{
		{1, 0, api.OK}, {1, 1, api.OK},
		{1, 2, api.ErrNone}, {1, 3, api.ErrNone}, {1, -1, api.ErrNone}, {1, math.MinInt, api.ErrNone}, {1, math.MaxInt, api.ErrNone}, {0, 0, api.ErrNone},
		{2, 0, api.ErrArg}, {-1, 0, api.ErrArg}, {math.MinInt, -1, api.ErrArg}, {math.MaxInt, 7, api.ErrArg},
	} {
		b, e := d.Read(c.zone, c.page)
		if e != c.want || (e == api.OK) != bytes.Equal(b, page(32, c.page)) || e != api.OK && len(b) != 0 {
			t.Errorf("Read(%d, %d): %d bytes, %v; want %v", c.zone, c.page, len(b), e, c.want)
		}
	}
	if p.Writes() != 2 {
		t.Errorf("%d writes: reading is none", p.Writes())
	}
}

func TestP304Pointer(t *testing.T) {
	p, d := fresh(t, 2, 3, 32)
	fill(t, d, 1, 2)
	for _, c := range []struct {
		zone, n int
		want    api.Errno
	}{
		{0, 0, api.OK}, {1, 2, api.OK}, {2, 0, api.ErrArg}, {-1, 0, api.ErrArg}, {math.MinInt, 0, api.ErrArg}, {math.MaxInt, 0, api.ErrArg},
	} {
		if n, e := d.Pointer(c.zone); n != c.n || e != c.want {
			t.Errorf("Pointer(%d): %d, %v; want %d, %v", c.zone, n, e, c.n, c.want)
		}
	}
	if p.Writes() != 2 {
		t.Errorf("%d writes: asking is none", p.Writes())
	}
}

// P303, P304: of several errors the first one, whatever else is wrong with the call.
func TestP6FirstErrors(t *testing.T) {
	ask := func(d *zone.Drive, z int, b []byte) []api.Errno {
		_, read := d.Read(z, 9)
		_, pointer := d.Pointer(z)
		return []api.Errno{d.Append(z, b), d.Reset(z), d.Flush(), read, pointer}
	}
	same := func(what string, got []api.Errno, want api.Errno) {
		for i, e := range got {
			if e != want {
				t.Errorf("%s, call %d: %v; want %v", what, i, e, want)
			}
		}
	}
	p, d := fresh(t, 1, 1, 32)
	fill(t, d, 0, 1)
	d.Lose()
	same("lost", ask(d, 0, page(32, 0)), api.ErrLost)
	same("lost, no such zone", ask(d, 5, nil), api.ErrLost)
	if p.Writes() != 1 {
		t.Errorf("%d writes; want 1", p.Writes())
	}
	p.Arm(1)
	same("lost, armed", ask(d, 0, page(32, 0)), api.ErrLost)
	if p.Off() {
		t.Error("a lost drive asks for a write")
	}
	p.Write()
	same("lost, no power", ask(d, 0, page(32, 0)), api.ErrDown)
	same("lost, no power, no such zone", ask(d, -5, nil), api.ErrDown)
	d.Replace()
	same("no power", ask(d, 0, page(32, 0)), api.ErrDown)
	p.On()
	holds(t, d, 0, 0)
}

func TestP303RefusedCallsAreNotTheArmedWrite(t *testing.T) {
	p, d := fresh(t, 1, 1, 32)
	fill(t, d, 0, 1)
	p.Arm(1)
	d.Append(0, page(32, 1))
	d.Append(1, page(32, 1))
	d.Append(0, page(3, 1))
	d.Reset(1)
	d.Read(0, 0)
	d.Pointer(0)
	if p.Off() {
		t.Fatal("the power went at a call that was refused, or that reads")
	}
	if e := d.Flush(); e != api.ErrDown || !p.Off() {
		t.Errorf("%v, off %v", e, p.Off())
	}
}

func TestP303TheExample(t *testing.T) {
	p, d := fresh(t, 2, 3, 32)
	fill(t, d, 0, 2)
	d.Flush()
	fill(t, d, 0, 1)
	p.Arm(1, 0)
	if e := d.Append(0, page(32, 9)); e != api.ErrFull || p.Off() {
		t.Errorf("a fourth page of three: %v, off %v", e, p.Off())
	}
	if e := d.Append(1, page(32, 9)); e != api.ErrDown {
		t.Errorf("the next Append: %v; want down", e)
	}
	p.On()
	holds(t, d, 0, 2)
	holds(t, d, 1, 0)
}
