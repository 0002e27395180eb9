package nvlog_test

import (
	"bytes"
	"math"
	"math/rand/v2"
	"strings"
	"testing"

	"flint/api"
	"flint/frame"
	"flint/nvlog"
	"flint/nvram"
)

// image tells all bytes of a device.
func image(t *testing.T, d *nvram.Device) []byte {
	t.Helper()
	b, e := d.Read(0, d.Size())
	if e != api.OK {
		t.Fatalf("Read: %v", e)
	}
	return b
}

// all calls everything that there is to call.
func all(l *nvlog.Log) {
	for _, up := range []uint64{0, 1, 2, math.MaxUint64 - 1, math.MaxUint64} {
		l.Truncate(up)
		l.Append(nil)
		l.Append([]byte("abc"))
		l.Append(make([]byte, max(l.Room(), 0)))
		l.Len()
		l.Next()
	}
}

// spoilt asks that calls end where a device has these bytes, and that what is opened, if anything is, agrees with itself.
func spoilt(t *testing.T, d *nvram.Device, l *nvlog.Log, b []byte) {
	t.Helper()
	lay := func() {
		d.Write(0, b)
		d.Persist()
	}
	lay()
	if other, records, err := nvlog.Open(d); err == nil {
		if n := len(records); other.Len() != n || n > 0 && other.Next() != records[n-1].Seq+1 || other.Room() > d.Size() {
			t.Errorf("next %d, %d records, room %d, of % x: %s", other.Next(), other.Len(), other.Room(), b[:60], words(records))
		}
		all(other)
	}
	lay()
	all(l)
}

func TestP1AnyBytesOfADevice(t *testing.T) {
	_, d := fresh(t, 256)
	l := format(t, d)
	for range 3 {
		add(t, l, "some bytes")
	}
	sound := image(t, d)
	for seed := range uint64(9000) {
		rnd := rand.New(rand.NewPCG(seed, 1))
		bent := bytes.Clone(sound)
		for range 1 + rnd.IntN(4) {
			bent[rnd.IntN(1+rnd.IntN(len(bent)))] = byte(rnd.Uint32())
		}
		spoilt(t, d, l, bent)
	}
	l = format(t, d)
	add(t, l, "a")
	holds(t, d, l, 1, "a")
}

func TestP1AnyNumbersOfADevice(t *testing.T) {
	_, d := fresh(t, 256)
	l := format(t, d)
	for range 3 {
		add(t, l, "some bytes")
	}
	drop(t, l, 2)
	sound := image(t, d)
	for at := range 100 {
		for _, v := range []uint64{0, 1, 2, 255, 256, 1 << 20, math.MaxInt32, 1 << 32, math.MaxInt64, 1 << 63, math.MaxUint64 - 1, math.MaxUint64} {
			bent := frame.Number(sound[:at], v) // in the place of one byte
			spoilt(t, d, l, append(bent, sound[at+1:]...)[:256])
		}
	}
	l = format(t, d)
	add(t, l, "a")
	holds(t, d, l, 1, "a")
}

func TestP1ALogThatWasNotMade(t *testing.T) {
	var l nvlog.Log
	all(&l)
	if n, e := l.Append(nil); n != 0 || e != api.ErrLog || l.Room() != -1 || l.Len() != 0 {
		t.Errorf("%d, %v; room %d, %d records", n, e, l.Room(), l.Len())
	}
	if e := l.Truncate(0); e != api.ErrArg {
		t.Errorf("%v", e)
	}
}

func TestP2BytesHandedInAreNotChangedOrKept(t *testing.T) {
	_, d := fresh(t, 256)
	l := format(t, d)
	in := append(make([]byte, 0, 60), "some bytes"...)
	was := bytes.Clone(in[:60])
	l.Append(in)
	l.Append(in[5:])
	if !bytes.Equal(in[:60], was) {
		t.Errorf("Append changes what it is handed, or its spare room: %q", in[:60])
	}
	clear(in[:60])
	holds(t, d, l, 1, "some bytes", "bytes")
}

func TestP2AnswersAreNewMemory(t *testing.T) {
	_, d := fresh(t, 512)
	l := format(t, d)
	texts := []string{"one", "", "three", strings.Repeat("four", 30), "five"}
	for _, s := range texts {
		add(t, l, s)
	}
	drop(t, l, 1)
	for _, s := range []string{strings.Repeat("six", 60), "seven"} { // one of them goes round the ring's end
		drop(t, l, l.Next()-4)
		add(t, l, s)
		texts = append(texts, s)
	}
	want := rows(4, texts[3:]...)
	_, first := open(t, d)
	_, second := open(t, d)
	if !same(first, want) {
		t.Fatalf("%s", words(first))
	}
	for i, r := range first {
		b := r.Bytes[:cap(r.Bytes)]
		for j := range b {
			b[j] ^= 0xFF
		}
		if !same(first[i+1:], want[i+1:]) {
			t.Errorf("record %d shares memory with one behind it", r.Seq)
		}
	}
	clear(first[:cap(first)])
	if !same(second, want) {
		t.Error("two answers share memory")
	}
	holds(t, d, l, 4, texts[3:]...)
}

func TestP3SameCallsSameAnswers(t *testing.T) {
	var images [][]byte
	for range 2 {
		_, d := fresh(t, 300)
		l := format(t, d)
		for i := range 50 {
			add(t, l, strings.Repeat("ab", i))
			drop(t, l, l.Next()-1)
		}
		images = append(images, image(t, d))
	}
	if !bytes.Equal(images[0], images[1]) {
		t.Error("two logs of the same calls are unlike")
	}
}

func TestP5ErrorsChangeNothing(t *testing.T) {
	p, d := fresh(t, 256)
	l := format(t, d)
	add(t, l, "one")
	add(t, l, "two")
	drop(t, l, 1)
	was, writes, room := image(t, d), p.Writes(), l.Room()
	_, long := l.Append(make([]byte, api.MaxValue+1))
	_, full := l.Append(make([]byte, room+1))
	far := l.Truncate(3)
	down(p)
	_, off := l.Append([]byte("three"))
	none := l.Truncate(2)
	_, format := nvlog.Format(d)
	counts(t, "without power", l, 3, 1)
	if l.Room() != room {
		t.Errorf("without power: room %d; before %d", l.Room(), room)
	}
	p.On()
	if long != api.ErrLong || full != api.ErrLog || far != api.ErrArg || off != api.ErrDown || none != api.ErrDown || format == nil {
		t.Errorf("%v, %v, %v, %v, %v, %v", long, full, far, off, none, format)
	}
	if !bytes.Equal(image(t, d), was) || p.Writes() != writes || l.Room() != room {
		t.Error("the device is another one")
	}
	holds(t, d, l, 2, "two")
}

func TestP7LogsAreTheirOwn(t *testing.T) {
	p, a := fresh(t, 256)
	b, _ := nvram.New(p, 300)
	first, second := format(t, a), format(t, b)
	add(t, first, "a")
	add(t, second, "b")
	add(t, second, "c")
	drop(t, second, 1)
	holds(t, a, first, 1, "a")
	holds(t, b, second, 2, "c")
	third, _ := open(t, a)
	if third == first {
		t.Error("Open answers a log that somebody has")
	}
}
