package nvlog_test

import (
	"bytes"
	"errors"
	"math"
	"strconv"
	"strings"
	"testing"

	"flint/api"
	"flint/nvlog"
	"flint/nvram"
	"flint/zone"
)

// fresh tells a device of so many bytes, and its power.
func fresh(t *testing.T, size int) (*zone.Power, *nvram.Device) {
	t.Helper()
	p := zone.NewPower()
	d, e := nvram.New(p, size)
	if e != api.OK {
		t.Fatalf("New(%d): %v", size, e)
	}
	return p, d
}

// down puts the power off, and leaves nothing armed.
func down(p *zone.Power) {
	if !p.Off() {
		p.Arm(1)
		p.Write()
	}
}

// format, open, add, drop are calls that must be done.
func format(t *testing.T, d *nvram.Device) *nvlog.Log {
	t.Helper()
	l, err := nvlog.Format(d)
	if l == nil || err != nil {
		t.Fatalf("Format: %v", err)
	}
	return l
}

func open(t *testing.T, d *nvram.Device) (*nvlog.Log, []nvlog.Record) {
	t.Helper()
	l, records, err := nvlog.Open(d)
	if l == nil || err != nil {
		t.Fatalf("Open: %v", err)
	}
	return l, records
}

func add(t *testing.T, l *nvlog.Log, text string) {
	t.Helper()
	want := l.Next()
	if n, e := l.Append([]byte(text)); n != want || e != api.OK {
		t.Fatalf("Append of %d bytes: %d, %v; want %d", len(text), n, e, want)
	}
}

func drop(t *testing.T, l *nvlog.Log, up uint64) {
	t.Helper()
	if e := l.Truncate(up); e != api.OK {
		t.Fatalf("Truncate(%d): %v", up, e)
	}
}

// rows tells records with these texts, from that number on.
func rows(first uint64, texts ...string) []nvlog.Record {
	var records []nvlog.Record
	for i, s := range texts {
		records = append(records, nvlog.Record{Seq: first + uint64(i), Bytes: []byte(s)})
	}
	return records
}

// counts asks what a log says of itself.
func counts(t *testing.T, what string, l *nvlog.Log, next uint64, n int) {
	t.Helper()
	if l.Next() != next || l.Len() != n {
		t.Fatalf("%s: next %d, %d records; want %d, %d", what, l.Next(), l.Len(), next, n)
	}
}

// holds asks that the device has just these records, and all of them persisted, and what l and a log opened anew say.
func holds(t *testing.T, d *nvram.Device, l *nvlog.Log, first uint64, texts ...string) {
	t.Helper()
	if n := d.Pending(); n != 0 {
		t.Fatalf("%d bytes are not persisted", n)
	}
	next := first + uint64(len(texts))
	counts(t, "the log", l, next, len(texts))
	anew, records := open(t, d)
	counts(t, "opened", anew, next, len(texts))
	if anew.Room() != l.Room() {
		t.Errorf("room %d, opened %d", l.Room(), anew.Room())
	}
	if want := rows(first, texts...); !same(records, want) {
		t.Fatalf("%d records: %s; want %s", len(records), words(records), words(want))
	}
}

func same(a, b []nvlog.Record) bool {
	if len(a) != len(b) {
		return false
	}
	for i := range a {
		if a[i].Seq != b[i].Seq || !bytes.Equal(a[i].Bytes, b[i].Bytes) {
			return false
		}
	}
	return true
}

func words(records []nvlog.Record) string {
	var l []string
	for _, r := range records {
		l = append(l, strconv.FormatUint(r.Seq, 10)+" "+strconv.Quote(string(r.Bytes[:min(len(r.Bytes), 40)])))
	}
	return strings.Join(l, ", ")
}

// fails asks for an error that wraps this one, and for nothing beside it.
func fails(t *testing.T, what string, l *nvlog.Log, records []nvlog.Record, err error, want api.Errno) {
	t.Helper()
	var e api.Errno
	if !errors.Is(err, want) || !errors.As(err, &e) || e != want || err.Error() == "" {
		t.Errorf("%s: %v; want %v", what, err, want)
	}
	if l != nil || len(records) != 0 {
		t.Errorf("%s: a log %v, %d records beside an error", what, l != nil, len(records))
	}
}

// least tells how much room there must be.
func least(size int, texts ...string) int {
	n := size - 200
	for _, s := range texts {
		n -= len(s) + 40
	}
	return n
}

func TestP701Format(t *testing.T) {
	for _, size := range []int{256, 257, 300, 1000, 4096, 1 << 26} {
		_, d := fresh(t, size)
		l := format(t, d)
		holds(t, d, l, 1)
		add(t, l, "a")
		add(t, l, "b")
		holds(t, d, l, 1, "a", "b")
	}
}

func TestP701FormatOfALog(t *testing.T) {
	p, d := fresh(t, 256)
	l := format(t, d)
	for range 3 {
		add(t, l, "some bytes")
		add(t, l, "more of them")
		drop(t, l, 1)
		l = format(t, d)
		holds(t, d, l, 1)
		down(p)
		p.On()
		holds(t, d, l, 1)
	}
	add(t, l, "anew")
	holds(t, d, l, 1, "anew")
}

func TestP701TooSmall(t *testing.T) {
	for _, size := range []int{64, 65, 100, 199, 200, 201, 254, 255} {
		p, d := fresh(t, size)
		for _, power := range []string{"on", "off"} { // arg comes ahead of down
			l, err := nvlog.Format(d)
			fails(t, "Format, power "+power, l, nil, err, api.ErrArg)
			l, records, err := nvlog.Open(d)
			fails(t, "Open, power "+power, l, records, err, api.ErrArg)
			down(p)
		}
		if p.Writes() != 0 {
			t.Errorf("%d writes", p.Writes())
		}
	}
}

func TestP701WithoutPower(t *testing.T) {
	p, d := fresh(t, 256)
	check := func(what string) {
		down(p)
		l, err := nvlog.Format(d)
		fails(t, "Format, "+what, l, nil, err, api.ErrDown)
		l, records, err := nvlog.Open(d) // down comes ahead of form
		fails(t, "Open, "+what, l, records, err, api.ErrDown)
		p.On()
	}
	check("never formatted")
	l, records, err := nvlog.Open(d)
	fails(t, "Open", l, records, err, api.ErrForm)
	l = format(t, d)
	add(t, l, "a")
	check("formatted")
	holds(t, d, l, 1, "a")
}

func TestP701NeverFormatted(t *testing.T) {
	for _, size := range []int{256, 4096} {
		p, d := fresh(t, size)
		for range 2 {
			l, records, err := nvlog.Open(d)
			fails(t, "Open", l, records, err, api.ErrForm)
		}
		if p.Writes() != 0 || p.Off() {
			t.Errorf("%d writes, off %v", p.Writes(), p.Off())
		}
	}
}

// Bytes that no log wrote are none, and may be formatted.
func TestP701OtherBytes(t *testing.T) {
	for x := 1; x < 256; x++ {
		_, d := fresh(t, 256)
		d.Write(0, bytes.Repeat([]byte{byte(x)}, 256))
		d.Persist()
		l, records, err := nvlog.Open(d)
		fails(t, "Open of bytes "+strconv.Itoa(x), l, records, err, api.ErrForm)
		l = format(t, d)
		add(t, l, "a")
		holds(t, d, l, 1, "a")
	}
}

func TestP701OpenWritesNothing(t *testing.T) {
	p, d := fresh(t, 256)
	l := format(t, d)
	add(t, l, "abc")
	p.Arm(1)
	was := p.Writes()
	open(t, d)
	open(t, d)
	l.Room()
	l.Next()
	l.Len()
	if p.Writes() != was || p.Off() {
		t.Errorf("%d writes, off %v", p.Writes()-was, p.Off())
	}
}

func TestExample(t *testing.T) {
	_, d := fresh(t, 256)
	l := format(t, d)
	if n, e := l.Append([]byte("a")); n != 1 || e != api.OK {
		t.Errorf("%d, %v", n, e)
	}
	if n, e := l.Append([]byte("b")); n != 2 || e != api.OK {
		t.Errorf("%d, %v", n, e)
	}
	drop(t, l, 1)
	l, records := open(t, d)
	if !same(records, rows(2, "b")) || l.Next() != 3 {
		t.Errorf("%s; next %d", words(records), l.Next())
	}
}

func TestP702Append(t *testing.T) {
	_, d := fresh(t, 2000)
	l := format(t, d)
	var texts []string
	for _, n := range []int{0, 1, 2, 0, 0, 127, 128, 129, 3, 255, 256, 257, 0, 5} {
		texts = append(texts, strings.Repeat("flint", 60)[:n])
		add(t, l, texts[len(texts)-1])
		holds(t, d, l, 1, texts...)
	}
	l, _ = open(t, d)
	add(t, l, "behind Open")
	holds(t, d, l, 1, append(texts, "behind Open")...)
}

func TestP702NumbersGoOn(t *testing.T) {
	_, d := fresh(t, 256)
	l := format(t, d)
	for n := uint64(1); n <= 1000; n++ {
		add(t, l, "record "+strconv.FormatUint(n, 10))
		counts(t, "appended", l, n+1, 1)
		drop(t, l, n)
		counts(t, "dropped", l, n+1, 0)
		if n%100 == 0 {
			l, _ = open(t, d)
		}
	}
	holds(t, d, l, 1001)
}

func TestP702TooLong(t *testing.T) {
	long := make([]byte, api.MaxValue+2)
	for _, size := range []int{256, 1 << 26} {
		p, d := fresh(t, size)
		l := format(t, d)
		for _, power := range []string{"on", "off"} { // long comes ahead of log and of down
			for _, n := range []int{api.MaxValue + 1, api.MaxValue + 2} {
				if seq, e := l.Append(long[:n]); seq != 0 || e != api.ErrLong {
					t.Errorf("%d bytes of %d, power %s: %d, %v; want long", n, size, power, seq, e)
				}
			}
			down(p)
		}
		p.On()
		holds(t, d, l, 1)
	}
}

func TestP702Longest(t *testing.T) {
	long := strings.Repeat("longest!", api.MaxValue/8)
	_, d := fresh(t, 1<<26)
	l := format(t, d)
	for range 3 {
		add(t, l, long)
	}
	holds(t, d, l, 1, long, long, long)
	drop(t, l, 2)
	add(t, l, long) // round the ring's end
	holds(t, d, l, 3, long, long)
}

func TestP702NoRoom(t *testing.T) {
	for _, size := range []int{256, 300, 511, 1024} {
		p, d := fresh(t, size)
		l := format(t, d)
		add(t, l, "x")
		n := l.Room()
		full := strings.Repeat("r", n)
		for _, power := range []string{"on", "off"} { // log comes ahead of down
			for _, more := range []int{1, 2, 40, 1000, api.MaxValue - n} {
				if seq, e := l.Append(make([]byte, n+more)); seq != 0 || e != api.ErrLog {
					t.Errorf("%d bytes, %d fit, power %s: %d, %v; want log", n+more, n, power, seq, e)
				}
			}
			down(p)
		}
		if seq, e := l.Append([]byte(full)); seq != 0 || e != api.ErrDown {
			t.Errorf("without power: %d, %v; want down", seq, e)
		}
		p.On()
		holds(t, d, l, 1, "x")
		add(t, l, full)
		holds(t, d, l, 1, "x", full)
	}
}

func TestP702EmptyRecordsTillNoneFits(t *testing.T) {
	_, d := fresh(t, 256)
	l := format(t, d)
	var texts []string
	for l.Room() >= 0 {
		if len(texts) > 256 {
			t.Fatal("a record takes no room")
		}
		add(t, l, "")
		texts = append(texts, "")
	}
	if n := l.Room(); n != -1 {
		t.Errorf("Room: %d; want -1", n)
	}
	if n, e := l.Append(nil); n != 0 || e != api.ErrLog {
		t.Errorf("%d, %v; want log", n, e)
	}
	holds(t, d, l, 1, texts...)
	drop(t, l, uint64(len(texts)))
	holds(t, d, l, uint64(len(texts))+1)
}

func TestP703Truncate(t *testing.T) {
	texts := []string{"one", "", "three", "four", "five and more"}
	for up := range uint64(6) {
		for behind := range up + 1 { // once more, up to one that is gone
			p, d := fresh(t, 400)
			l := format(t, d)
			for _, s := range texts {
				add(t, l, s)
			}
			drop(t, l, up)
			holds(t, d, l, up+1, texts[up:]...)
			drop(t, l, behind)
			holds(t, d, l, up+1, texts[up:]...)
			down(p)
			p.On()
			l, _ = open(t, d)
			drop(t, l, up)
			add(t, l, "six")
			holds(t, d, l, up+1, append(texts[up:5:5], "six")...)
		}
	}
}

func TestP703TruncateOfNone(t *testing.T) {
	_, d := fresh(t, 256)
	l := format(t, d)
	drop(t, l, 0)
	holds(t, d, l, 1)
	add(t, l, "a")
	drop(t, l, 0)
	holds(t, d, l, 1, "a")
	drop(t, l, 1)
	drop(t, l, 1)
	drop(t, l, 0)
	holds(t, d, l, 2)
}

func TestP703TruncateTooFar(t *testing.T) {
	p, d := fresh(t, 256)
	l := format(t, d)
	check := func(what string, next uint64) {
		t.Helper()
		for _, power := range []string{"on", "off"} { // arg comes ahead of down
			for _, up := range []uint64{next, next + 1, next + 1000, 1 << 32, 1 << 63, math.MaxUint64} {
				if e := l.Truncate(up); e != api.ErrArg {
					t.Errorf("%s, power %s: Truncate(%d): %v; want arg", what, power, up, e)
				}
			}
			down(p)
		}
		for up := range next {
			if e := l.Truncate(up); e != api.ErrDown {
				t.Errorf("%s: Truncate(%d): %v; want down", what, up, e)
			}
		}
		p.On()
	}
	check("no record", 1)
	add(t, l, "a")
	add(t, l, "b")
	check("two records", 3)
	holds(t, d, l, 1, "a", "b")
	drop(t, l, 2)
	check("two that are gone", 3)
	holds(t, d, l, 3)
}

func TestP703Room(t *testing.T) {
	for _, size := range []int{256, 257, 300, 400, 1000, 5000} {
		_, d := fresh(t, size)
		l := format(t, d)
		var texts []string
		next := uint64(1)
		for step := range 300 {
			want := least(size, texts...)
			if n := l.Room(); n < want || n < -1 || n > size {
				t.Fatalf("size %d, %d records: room %d; want %d at least", size, len(texts), n, want)
			}
			s := strings.Repeat("x", step*7%90)
			if len(s) <= l.Room() {
				add(t, l, s)
				texts, next = append(texts, s), next+1
				continue
			}
			gone := min(step%3+1, len(texts))
			texts = texts[gone:]
			drop(t, l, next-1-uint64(len(texts)))
		}
		holds(t, d, l, next-uint64(len(texts)), texts...)
	}
}

// What fits by the chapter's words is appended, wherever in the ring it begins.
func TestP703RoomAllAround(t *testing.T) {
	for _, size := range []int{256, 263} {
		for shift := range size + 10 {
			_, d := fresh(t, size)
			l := format(t, d)
			for ; shift > 0; shift -= 40 {
				add(t, l, strings.Repeat("s", min(shift, 40)))
				drop(t, l, l.Next()-1)
			}
			n := l.Room()
			if n < size-200 {
				t.Fatalf("size %d: room %d of an empty log", size, n)
			}
			whole := strings.Repeat("whole", size)[:n]
			add(t, l, whole)
			holds(t, d, l, l.Next()-1, whole)
			drop(t, l, l.Next()-1)
			if l.Room() != n {
				t.Fatalf("size %d: room %d; at first %d", size, l.Room(), n)
			}
		}
	}
}

func TestP703RoomOfAGreatDevice(t *testing.T) {
	_, d := fresh(t, 1<<26)
	l := format(t, d)
	if n := l.Room(); n < 1<<26-200 {
		t.Errorf("%d", n)
	}
	texts := []string{strings.Repeat("a", 1<<20), strings.Repeat("b", 1<<21+1)}
	for _, s := range texts {
		add(t, l, s)
	}
	if n := l.Room(); n < least(1<<26, texts...) {
		t.Errorf("%d", n)
	}
	holds(t, d, l, 1, texts...)
}
