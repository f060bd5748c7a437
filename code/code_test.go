package code

import (
	"bytes"
	"math"
	"testing"
)

func TestZig(t *testing.T) {
	for n, want := range map[int64]uint64{0: 0, -1: 1, 1: 2, -2: 3, 2: 4, math.MaxInt64: math.MaxUint64 - 1, math.MinInt64: math.MaxUint64} {
		if got := Zig(n); got != want {
			t.Error(n, got, want)
		}
		if got := Zag(want); got != n {
			t.Error(want, got, n)
		}
	}
}

func TestNum(t *testing.T) {
	for u, want := range map[uint64][]byte{
		0: {0}, 1: {1}, 127: {127}, 128: {0x80, 1}, 300: {0xac, 2}, 1 << 14: {0x80, 0x80, 1},
		math.MaxUint64: {255, 255, 255, 255, 255, 255, 255, 255, 255, 1},
		1 << 63:        {128, 128, 128, 128, 128, 128, 128, 128, 128, 1},
	} {
		if got := Num(nil, u); !bytes.Equal(got, want) {
			t.Errorf("%d: %x", u, got)
		}
		r := Read(append(bytes.Clone(want), 7))
		if got := r.Num(); got != u || !r.Ok() || !bytes.Equal(r.Rest(), []byte{7}) {
			t.Error(u, got, r.Ok(), r.Rest())
		}
	}
	if got := Num([]byte{9, 8}, 300); !bytes.Equal(got, []byte{9, 8, 0xac, 2}) {
		t.Errorf("%x", got)
	}
}

func TestNumHasOneForm(t *testing.T) {
	for i, b := range [][]byte{
		nil,
		{0x80},
		{0x80, 0},
		{0xac, 0x82, 0},
		{255, 255, 255, 255, 255, 255, 255, 255, 255, 2},
		{128, 128, 128, 128, 128, 128, 128, 128, 128, 128, 1},
		{255, 255, 255, 255, 255, 255, 255, 255, 255},
		{255, 255, 255, 255, 255, 255, 255, 255, 255, 0x81, 0},
	} {
		r := Read(b)
		if u := r.Num(); u != 0 || r.Ok() || len(r.Rest()) != 0 {
			t.Error(i, u, r.Ok(), r.Rest())
		}
	}
}

func TestBytes(t *testing.T) {
	if got := Bytes([]byte{5}, []byte("abc")); !bytes.Equal(got, []byte{5, 3, 'a', 'b', 'c'}) {
		t.Errorf("%x", got)
	}
	if got := Bytes(nil, nil); !bytes.Equal(got, []byte{0}) {
		t.Errorf("%x", got)
	}
	long := make([]byte, 200)
	if got := Bytes(nil, long); len(got) != 202 || got[0] != 0xc8 || got[1] != 1 {
		t.Errorf("%x", got)
	}
	b := Bytes(Bytes(nil, []byte("abc")), nil)
	r := Read(b)
	if x := r.Bytes(3); string(x) != "abc" || !r.Ok() {
		t.Error(x)
	}
	if x := r.Bytes(0); len(x) != 0 || !r.Ok() {
		t.Error(x)
	}
	if len(r.Rest()) != 0 || !r.Ok() {
		t.Error(r.Rest())
	}
}

func TestBytesRefuses(t *testing.T) {
	for i, x := range []struct {
		b    []byte
		most int
	}{
		{[]byte{3, 'a', 'b', 'c'}, 2},
		{[]byte{3, 'a', 'b'}, 9},
		{[]byte{0}, -1},
		{nil, 9},
		{[]byte{255, 255, 255, 255, 255, 255, 255, 255, 255, 1, 'a'}, math.MaxInt},
		{[]byte{0x83, 0, 'a', 'b', 'c'}, 9},
	} {
		r := Read(x.b)
		if got := r.Bytes(x.most); got != nil || r.Ok() {
			t.Error(i, got, r.Ok())
		}
	}
}

func TestNothingMoreIsRead(t *testing.T) {
	r := Read([]byte{0x80, 0, 5, 1, 'a'})
	r.Num()
	if u := r.Num(); u != 0 || r.Ok() {
		t.Error(u)
	}
	if x := r.Bytes(9); x != nil || r.Ok() || r.Rest() != nil {
		t.Error(x)
	}
	r = Read([]byte{3, 'a', 1, 1})
	r.Bytes(9)
	if u := r.Num(); u != 0 || r.Ok() || r.Rest() != nil {
		t.Error(u)
	}
}

func TestRestStays(t *testing.T) {
	r := Read([]byte{1, 2})
	r.Rest()[0] = 9
	if u := r.Num(); u != 1 {
		t.Error(u)
	}
}

func TestMemoryIsNew(t *testing.T) {
	b := make([]byte, 1, 100)
	x := []byte{7, 7}
	got := Bytes(b, x)
	Num(b, 300)
	if spare := b[1:5]; !bytes.Equal(spare, make([]byte, 4)) {
		t.Error("spare room was written", spare)
	}
	got[2] = 1
	if x[0] != 7 {
		t.Error("shared")
	}
	in := []byte{2, 'a', 'b', 1}
	r := Read(in)
	in[1] = 'z'
	y := r.Bytes(2)
	if string(y) != "ab" {
		t.Error("kept", y)
	}
	_ = append(y, 99)
	if u := r.Num(); u != 1 {
		t.Error("spare room is shared", u)
	}
}
