package pyramid_test

import (
	"bytes"
	"math/rand/v2"
	"slices"
	"strings"
	"testing"

	"flint/api"
	"flint/fact"
	"flint/pyramid"
)

// A keep keeps what it is handed, and can be told to fail.
type keep struct {
	blobs map[api.Addr][]byte
	full  api.Errno              // what Put answers, if it is an error
	lost  map[api.Addr]api.Errno // what Get answers
	laid  uint64
	puts  int
	gets  []api.Addr
}

func newKeep() *keep {
	return &keep{blobs: map[api.Addr][]byte{}, lost: map[api.Addr]api.Errno{}}
}

// Put spoils what it was handed, which is its own then.
func (k *keep) Put(b []byte) (api.Addr, api.Errno) {
	if k.full != api.OK {
		return api.Addr{}, k.full
	}
	at := k.lay(b)
	k.puts++
	scribble(b)
	return at, api.OK
}

func (k *keep) lay(b []byte) api.Addr {
	k.laid++
	at := api.Addr{Segment: k.laid, At: 7, N: len(b)}
	k.blobs[at] = bytes.Clone(b)
	return at
}

func (k *keep) Get(at api.Addr) ([]byte, api.Errno) {
	k.gets = append(k.gets, at)
	if e := k.lost[at]; e != api.OK {
		return nil, e
	}
	b, ok := k.blobs[at]
	if !ok {
		return nil, api.ErrArg
	}
	return b, api.OK
}

// lose makes all blobs be told as lost, or, with OK, no more.
func (k *keep) lose(e api.Errno) {
	for at := range k.blobs {
		k.lost[at] = e
	}
}

// asked tells how many blobs do asks for.
func (k *keep) asked(do func()) int {
	was := len(k.gets)
	do()
	return len(k.gets) - was
}

// facts tells those of the table that lies at a place.
func (k *keep) facts(t *testing.T, at api.Addr) []api.Fact {
	t.Helper()
	table, e := fact.Open(k.blobs[at])
	if e != api.OK {
		t.Fatalf("at %v lies no table: %v", at, e)
	}
	return slices.Collect(table.All())
}

// table lays one of these facts.
func (k *keep) table(t *testing.T, l ...api.Fact) api.Addr {
	t.Helper()
	b, e := fact.Build(l, 100)
	if e != api.OK {
		t.Fatal(e)
	}
	return k.lay(b)
}

// scribble changes each byte, the spare room too.
func scribble(b []byte) {
	b = b[:cap(b)]
	for i := range b {
		b[i] += 0x35
	}
}

func f(key string, seq uint64, value string) api.Fact {
	return api.Fact{Key: key, Seq: seq, Value: []byte(value)}
}

func el(lo, hi string, seq uint64) api.Elision {
	return api.Elision{Lo: lo, Hi: hi, Seq: seq}
}

func same(a, b api.Fact) bool {
	return a.Key == b.Key && a.Seq == b.Seq && bytes.Equal(a.Value, b.Value)
}

func equal(a, b pyramid.State) bool {
	return a.Seq == b.Seq && slices.Equal(a.Patches, b.Patches) && slices.Equal(a.Elisions, b.Elisions)
}

func source(a, b uint64) *rand.Rand {
	return rand.New(rand.NewPCG(a, b))
}

// last is behind all keys that the tests put.
var last = strings.Repeat("\xff", 1025)

func made(t *testing.T, k pyramid.Keep, fan int) *pyramid.Pyramid {
	t.Helper()
	return loaded(t, k, fan, pyramid.State{})
}

func loaded(t *testing.T, k pyramid.Keep, fan int, s pyramid.State) *pyramid.Pyramid {
	t.Helper()
	p, e := pyramid.Load(k, fan, s)
	if e != api.OK || p == nil {
		t.Fatalf("Load(%v): %v", s, e)
	}
	return p
}

func put(t *testing.T, p *pyramid.Pyramid, pairs ...string) {
	t.Helper()
	for i := 0; i < len(pairs); i += 2 {
		was := p.State().Seq
		if n, e := p.Put(pairs[i], []byte(pairs[i+1])); n != was+1 || e != api.OK || p.State().Seq != n {
			t.Fatalf("Put(%q) behind %d: %d, %v", pairs[i], was, n, e)
		}
	}
}

func elided(t *testing.T, p *pyramid.Pyramid, lo, hi string) {
	t.Helper()
	was := p.State().Seq
	if n, e := p.Elide(lo, hi); n != was+1 || e != api.OK || p.State().Seq != n {
		t.Fatalf("Elide(%q, %q) behind %d: %d, %v", lo, hi, was, n, e)
	}
}

func flush(t *testing.T, p *pyramid.Pyramid) {
	t.Helper()
	if e := p.Flush(); e != api.OK || p.Pending() != 0 {
		t.Fatalf("Flush: %v; %d are pending", e, p.Pending())
	}
}

// flushed puts each pair, and flushes it.
func flushed(t *testing.T, p *pyramid.Pyramid, pairs ...string) {
	t.Helper()
	for i := 0; i < len(pairs); i += 2 {
		put(t, p, pairs[i], pairs[i+1])
		flush(t, p)
	}
}

// merge asks that Merge tells so.
func merge(t *testing.T, p *pyramid.Pyramid, want bool) {
	t.Helper()
	if did, e := p.Merge(); did != want || e != api.OK {
		t.Fatalf("Merge: %v, %v; want %v", did, e, want)
	}
}

// has asks for the values of keys: "-" is of a key that has none.
func has(t *testing.T, p *pyramid.Pyramid, pairs ...string) {
	t.Helper()
	for i := 0; i < len(pairs); i += 2 {
		v, ok, e := p.Get(pairs[i])
		want := pairs[i+1]
		if want == "-" && (ok || len(v) != 0) || want != "-" && (!ok || string(v) != want) || e != api.OK {
			t.Errorf("Get(%q): %q, %v, %v; want %q", pairs[i], v, ok, e, want)
		}
	}
}

// scans asks that a Scan tells these facts.
func scans(t *testing.T, p *pyramid.Pyramid, lo, hi string, most int, want ...api.Fact) {
	t.Helper()
	if l, e := p.Scan(lo, hi, most); e != api.OK || !slices.EqualFunc(l, want, same) {
		t.Errorf("Scan(%q, %q, %d): %v, %v; want %v", lo, hi, most, l, e, want)
	}
}

// levels asks for the patches' levels and numbers, of which the first ones are Level, Lo, Hi of the first one.
func levels(t *testing.T, p *pyramid.Pyramid, want ...uint64) {
	t.Helper()
	var got []uint64
	for _, x := range p.State().Patches {
		got = append(got, uint64(x.Level), x.Lo, x.Hi)
	}
	if !slices.Equal(got, want) {
		t.Errorf("levels, Los, His: %v; want %v", got, want)
	}
}
