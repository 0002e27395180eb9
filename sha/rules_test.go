package sha_test

import (
	"bytes"
	"slices"
	"strings"
	"testing"

	"flint/api"
	"flint/sha"
)

func TestP1AnyData(t *testing.T) {
	texts := []string{"", "0", "\x00", strings.Repeat("\x00", 64), strings.Repeat("f", 1<<16), strings.Repeat("\xff", 65), "\U0010ffff"}
	d := sha.New()
	for _, s := range texts {
		sha.Parse(s)
		d.Write([]byte(s))
		d.Sum()
		for _, u := range texts {
			sha.Sum([]byte(s), nil, []byte(u))
			a, _ := sha.Parse(s)
			b, _ := sha.Parse(u)
			sha.Compare(a, b)
		}
	}
	sha.Sum(make([][]byte, 1000)...)
}

// Of a digest that New did not make the chapter says nothing; it has no bytes.
func TestP1ADigestThatNewDidNotMake(t *testing.T) {
	d := &sha.Digest{}
	is(t, "none", d, nil)
	b := text(150)
	for i := range b {
		d.Write(b[i : i+1])
		is(t, "so far", d, b[:i+1])
	}
}

func TestP2WhatIsHandedInIsNotChanged(t *testing.T) {
	for n := range 200 {
		whole := text(300)
		was := bytes.Clone(whole)
		part := whole[50 : 50+n]
		d := sha.New()
		sha.Sum(part, part)
		d.Write(part)
		d.Write(part)
		d.Sum()
		if !bytes.Equal(whole, was) {
			t.Fatalf("%d bytes are changed", n)
		}
	}
	parts := append(make([][]byte, 0, 9), []byte("a"), nil, []byte("b"))
	sha.Sum(parts[:2]...)
	if !slices.EqualFunc(parts[:cap(parts)], [][]byte{[]byte("a"), nil, []byte("b"), nil, nil, nil, nil, nil, nil}, bytes.Equal) {
		t.Error("the list of parts is changed")
	}
}

func TestP2WhatIsHandedInIsNotKept(t *testing.T) {
	for n := range 200 {
		b := text(n)
		d := sha.New()
		d.Write(b)
		clear(b)
		is(t, "behind a change", d, text(n))
		d.Write(b)
		is(t, "and more", d, append(text(n), b...))
	}
}

func TestP2NilIsEmpty(t *testing.T) {
	for n := range 130 {
		a, b := sha.New(), sha.New()
		a.Write(text(n))
		b.Write(text(n))
		a.Write(nil)
		b.Write([]byte{})
		if a.Sum() != b.Sum() || a.Len() != b.Len() {
			t.Fatalf("behind %d bytes", n)
		}
	}
	if sha.Sum(nil) != sha.Sum([]byte{}) || sha.Sum([][]byte{}...) != sha.Sum([][]byte(nil)...) {
		t.Error("nil is not empty")
	}
}

func TestP2AHashMayBeChanged(t *testing.T) {
	d := sha.New()
	d.Write([]byte("abc"))
	h := d.Sum()
	clear(h[:])
	is(t, "its hash changed", d, []byte("abc"))
	h = sha.Sum([]byte("abc"))
	s := h.String()
	clear(h[:])
	if s != plain([]byte("abc")).String() {
		t.Error("a text hangs on its hash")
	}
}

func TestP3TheSameCallsTellTheSame(t *testing.T) {
	var first []string
	for range 3 {
		d := sha.New()
		var l []string
		for n := range 100 {
			d.Write(text(n))
			l = append(l, d.Sum().String(), sha.Sum(text(n)).String())
		}
		if first == nil {
			first = l
		}
		if !slices.Equal(l, first) {
			t.Fatal("the same calls tell something else")
		}
	}
}

func TestP4NoHashBesideAnError(t *testing.T) {
	good := sha.Sum().String()
	for _, s := range []string{"", good[:63], good + "0", good[:63] + "g", good[:63] + "G", "G" + good[1:]} {
		if h, e := sha.Parse(s); h != (sha.Hash{}) || e != api.ErrForm {
			t.Errorf("Parse(%q): %s, %v", s, h, e)
		}
	}
}

func TestP7EachDigestIsAnother(t *testing.T) {
	a, b := sha.New(), sha.New()
	if a == b {
		t.Fatal("New tells one twice")
	}
	for n := range 150 {
		a.Write(text(n))
		is(t, "another one", b, nil)
	}
	b.Write([]byte("abc"))
	is(t, "another one", b, []byte("abc"))
}
