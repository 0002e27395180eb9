package nvlog_test

import (
	"bytes"
	"errors"
	"math/rand/v2"
	"slices"
	"strconv"
	"strings"
	"testing"

	"flint/api"
	"flint/frame"
	"flint/nvlog"
	"flint/nvram"
	"flint/zone"
)

// A step is a call that changes a log: Append of a text, Truncate, Format.
type step struct {
	kind byte // a, t, f
	text string
	up   uint64
}

func (s step) String() string {
	return string(s.kind) + " " + strconv.Itoa(len(s.text)) + " " + strconv.FormatUint(s.up, 10)
}

// A state is what a log must have.
type state struct {
	first uint64
	texts []string
}

func (s state) next() uint64 {
	return s.first + uint64(len(s.texts))
}

// after tells what a step makes of it.
func (s state) after(c step) state {
	switch c.kind {
	case 'a':
		return state{s.first, append(slices.Clip(s.texts), c.text)}
	case 't':
		gone := max(s.first, c.up+1) - s.first
		return state{s.first + gone, s.texts[gone:]}
	}
	return state{1, nil}
}

func (s state) is(records []nvlog.Record, next uint64) bool {
	return s.next() == next && same(records, rows(s.first, s.texts...))
}

// A rig is a device with a log, and what that must have.
type rig struct {
	power  *zone.Power
	device *nvram.Device
	log    *nvlog.Log
	state  state
	anew   bool // behind a cut a log opened anew goes on; else the old one does
	none   int  // how many cut calls had no effect, and how many their whole one
	whole  int
}

func newRig(t *testing.T, size int, anew bool) *rig {
	p, d := fresh(t, size)
	return &rig{power: p, device: d, log: format(t, d), state: state{first: 1}, anew: anew}
}

// do does a step, and tells the error.
func (r *rig) do(c step) api.Errno {
	switch c.kind {
	case 'a':
		n, e := r.log.Append([]byte(c.text))
		if e == api.OK && n != r.state.next() || e != api.OK && n != 0 {
			return api.ErrOrder
		}
		return e
	case 't':
		return r.log.Truncate(c.up)
	}
	l, err := nvlog.Format(r.device)
	if err == nil {
		r.log = l
		return api.OK
	}
	e := api.ErrForm
	errors.As(err, &e)
	return e
}

// step does a step till it is done, however often it is cut: each time its whole effect must be there, or none.
func (r *rig) step(t *testing.T, c step) {
	t.Helper()
	want := r.state.after(c)
	for {
		e := r.do(c)
		if e == api.OK {
			r.state = want
			return
		}
		if e != api.ErrDown || !r.power.Off() {
			t.Fatalf("%v: %v", c, e)
		}
		counts(t, "without power", r.log, r.state.next(), len(r.state.texts))
		r.power.On()
		if r.back(t, c, want) {
			r.state = want
			return
		}
	}
}

// back goes on behind a cut, and tells whether the step that was cut is done.
func (r *rig) back(t *testing.T, c step, want state) bool {
	t.Helper()
	l, records := open(t, r.device)
	done := want.is(records, l.Next())
	if !done && !r.state.is(records, l.Next()) {
		t.Fatalf("%v, cut: next %d, %s; want %v, or %v", c, l.Next(), words(records), r.state, want)
	}
	if r.anew {
		r.log = l
	}
	counts(t, "behind a cut", r.log, l.Next(), len(records))
	if r.log.Room() != l.Room() {
		t.Fatalf("room %d, opened %d", r.log.Room(), l.Room())
	}
	if done {
		r.whole++
	} else {
		r.none++
	}
	return done
}

func (r *rig) check(t *testing.T) {
	t.Helper()
	holds(t, r.device, r.log, r.state.first, r.state.texts...)
}

// scripts are for devices of 256 bytes; each goes round the ring.
func scripts() [][]step {
	long := strings.Repeat("long and longer ", 4)
	return [][]step{
		{{kind: 'a', text: "a"}, {kind: 'a', text: "b"}, {kind: 't', up: 1}, {kind: 'a'}, {kind: 't', up: 3}, {kind: 'a', text: "c"}},
		{
			{kind: 'a', text: long}, {kind: 'a', text: long[3:]}, {kind: 't', up: 1}, {kind: 'a', text: long[5:]}, {kind: 't', up: 2},
			{kind: 'a', text: long}, {kind: 't', up: 3}, {kind: 'a', text: long[8:]}, {kind: 't', up: 5}, {kind: 'a', text: long},
		},
		{{kind: 'a', text: long}, {kind: 'a', text: "x"}, {kind: 'f'}, {kind: 'a', text: "y"}, {kind: 't', up: 1}, {kind: 'f'}, {kind: 'f'}, {kind: 'a', text: "z"}},
	}
}

// picks are so many as bytes may be pending in a script, and one more.
const picks = 110

func TestP704CutAnywhere(t *testing.T) {
	for i, script := range scripts() {
		none, whole := 0, 0
		for n, cut := 1, true; cut; n++ {
			for pick := range picks {
				r := newRig(t, 256, pick%2 == 0)
				r.power.Arm(n, pick)
				for _, c := range script {
					r.step(t, c)
				}
				r.check(t)
				none, whole = none+r.none, whole+r.whole
				cut = r.none+r.whole > 0
			}
		}
		if none == 0 || whole == 0 {
			t.Errorf("script %d: cut without effect %d times, with it %d times; want both", i, none, whole)
		}
	}
}

func TestP704CutAgainAndAgain(t *testing.T) {
	for _, script := range scripts() {
		for n := 1; n < 12; n++ {
			for pick := -1; pick < picks; pick += 3 {
				r := newRig(t, 256, pick%2 == 0)
				for _, c := range script {
					r.power.Arm(n, pick)
					r.step(t, c)
					r.power.Arm(n/2+1, pick/2)
					r.step(t, step{kind: 't', up: 0})
				}
				r.check(t)
			}
		}
	}
}

// A device that was never formatted has no log behind a cut Format, or one without records.
func TestP704CutFirstFormat(t *testing.T) {
	none, whole := 0, 0
	for n := 1; n < 20; n++ {
		for pick := range picks {
			p, d := fresh(t, 256)
			p.Arm(n, pick)
			_, err := nvlog.Format(d)
			if err != nil && !errors.Is(err, api.ErrDown) {
				t.Fatal(err)
			}
			p.On()
			l, records, opened := nvlog.Open(d)
			switch {
			case errors.Is(opened, api.ErrForm) && err != nil:
				none++
			case opened == nil && len(records) == 0 && l.Next() == 1:
				whole++
			default:
				t.Fatalf("Format: %v; Open: %s, %v", err, words(records), opened)
			}
		}
	}
	if none == 0 || whole == 0 {
		t.Errorf("%d, %d; want both", none, whole)
	}
}

// What other devices' writes cut is nothing that the log was told to be done.
func TestP704CutBetweenCalls(t *testing.T) {
	p, d := fresh(t, 256)
	other, _ := nvram.New(p, 64)
	l := format(t, d)
	for pick := range 20 {
		for _, text := range []string{"some", "others"} {
			add(t, l, text)
			p.Arm(1, pick)
			other.Write(0)
			p.On()
		}
		drop(t, l, l.Next()-2)
		p.Arm(1, pick)
		other.Persist()
		p.On()
		holds(t, d, l, uint64(2*pick+2), "others")
		drop(t, l, l.Next()-1)
	}
}

// twist changes 33 bits of b such that its sum stays what it is: they are those of the sum's polynomial.
func twist(b []byte) {
	p := uint64(0x82F63B78)<<1 | 1
	for i := range 5 {
		b[i] ^= byte(p >> (8 * i))
	}
}

// A record is chosen whose bytes have the same sum, wherever between its two ends it is cut, with what lay there before behind the cut.
func TestP704SumsDecideNothing(t *testing.T) {
	old := bytes.Repeat([]byte{'o'}, 60)
	half := bytes.Clone(old)
	twist(half[4:])
	whole := bytes.Clone(half)
	twist(whole[50:])
	if frame.Sum(old) != frame.Sum(half) || frame.Sum(half) != frame.Sum(whole) {
		t.Fatal("the sums are not the same ones")
	}
	for n := 1; n < 12; n++ {
		for pick := range picks {
			for shift := range 3 {
				r := newRig(t, 256, pick%2 == 0)
				for range 12 {
					r.step(t, step{kind: 'a', text: string(old)})
					r.step(t, step{kind: 't', up: r.state.first})
				}
				r.step(t, step{kind: 'a', text: string(old[:shift*20])})
				r.power.Arm(n, pick)
				r.step(t, step{kind: 'a', text: string(whole)})
				r.check(t)
			}
		}
	}
}

// Records whose bytes are those of the device, as a log wrote them, say nothing when they lie there.
func TestP704RecordsThatLookLikeALog(t *testing.T) {
	for n := 1; n < 12; n++ {
		for pick := 0; pick < picks; pick += 2 {
			r := newRig(t, 256, pick%4 == 0)
			for i := range 12 {
				image, _ := r.device.Read(0, 256)
				from := i * 37 % 190
				c := step{kind: 'a', text: string(image[from : from+60])}
				r.power.Arm(n, pick)
				r.step(t, c)
				if i > 0 {
					r.step(t, step{kind: 't', up: r.state.first})
				}
			}
			r.check(t)
		}
	}
}

// anyStep tells a step that may be done, and fits.
func (r *rig) anyStep(t *testing.T, rnd *rand.Rand) step {
	switch k := rnd.IntN(50); {
	case k == 0:
		return step{kind: 'f'}
	case k < 15 && len(r.state.texts) > 0:
		return step{kind: 't', up: r.state.next() - 1 - uint64(rnd.IntN(len(r.state.texts)))}
	}
	room := r.log.Room()
	if room < max(least(r.device.Size(), r.state.texts...), -1) {
		t.Fatalf("room %d", room)
	}
	if room < 0 {
		return step{kind: 't', up: r.state.next() - 1}
	}
	b := make([]byte, rnd.IntN(min(room, 70)+1))
	for i := range b {
		b[i] = byte(rnd.IntN(4))
	}
	if rnd.IntN(30) == 0 {
		b = make([]byte, room)
	}
	return step{kind: 'a', text: string(b)}
}

func TestP704AnySteps(t *testing.T) {
	for seed := range uint64(120) {
		rnd := rand.New(rand.NewPCG(seed, 704))
		r := newRig(t, 256+rnd.IntN(200), seed%2 == 0)
		for range 300 {
			if rnd.IntN(3) == 0 {
				r.power.Arm(1+rnd.IntN(9), rnd.IntN(200)-5)
			}
			r.step(t, r.anyStep(t, rnd))
			if rnd.IntN(10) == 0 {
				r.log, _ = open(t, r.device)
			}
		}
		r.check(t)
	}
}

// Each call writes what decides behind all else that it writes, and that is one byte: of the picks at one write either none
// leaves an effect, or each second one does, as one pending byte has it.
func TestP704OneByteDecides(t *testing.T) {
	for _, c := range []step{{kind: 'a', text: "a record of some bytes"}, {kind: 'a'}, {kind: 't', up: 1}, {kind: 't', up: 2}, {kind: 'f'}} {
		decided := 0
		for n := 1; n < 12; n++ {
			var effects []bool
			for pick := range picks {
				r := newRig(t, 256, true)
				r.step(t, step{kind: 'a', text: "one"})
				r.step(t, step{kind: 'a', text: "two"})
				want := r.state.after(c)
				r.power.Arm(n, pick)
				if r.do(c) == api.OK {
					break
				}
				r.power.On()
				effects = append(effects, r.back(t, c, want))
			}
			if !slices.Contains(effects, true) {
				continue
			}
			decided++
			for pick, effect := range effects {
				if effect != (pick%2 == 1) {
					t.Fatalf("%v, cut at write %d by pick %d: an effect %v", c, n, pick, effect)
				}
			}
		}
		if decided != 1 {
			t.Errorf("%v: decided at %d writes; want one", c, decided)
		}
	}
}
