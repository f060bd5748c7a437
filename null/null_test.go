package null

import (
	"bytes"
	"math/rand"
	"slices"
	"testing"
)

func TestEncode(t *testing.T) {
	for i, x := range []struct {
		l    []bool
		want []byte
	}{
		{nil, []byte{0, 0}},
		{[]bool{}, []byte{0, 0}},
		{[]bool{false}, []byte{1, 0}},
		{[]bool{true}, []byte{1, 1}},
		{[]bool{true, true, true}, []byte{3, 1}},
		{[]bool{true, false, true}, []byte{3, 2, 0xa0}},
		{make([]bool, 300), []byte{0xac, 2, 0}},
		{[]bool{false, false, false, false, false, false, false, false, true}, []byte{9, 2, 0, 0x80}},
	} {
		if got := Encode(x.l); !bytes.Equal(got, x.want) {
			t.Errorf("%d %x", i, got)
		}
		l, rest, ok := Decode(append(bytes.Clone(x.want), 7, 8))
		if !ok || !slices.Equal(l, x.l) || !bytes.Equal(rest, []byte{7, 8}) {
			t.Error(i, l, rest, ok)
		}
		l, rest, ok = Decode(x.want)
		if !ok || !slices.Equal(l, x.l) || len(rest) != 0 {
			t.Error(i, l, rest, ok)
		}
	}
}

func TestDecodeRefuses(t *testing.T) {
	for i, b := range [][]byte{
		nil,
		{0},
		{0, 1},
		{0, 2},
		{1, 3},
		{1, 2, 0x80},
		{1, 2, 0},
		{3, 2, 0},
		{3, 2, 0xe0},
		{3, 2, 0xa1},
		{3, 2},
		{9, 2, 0x80},
		{0x83, 0, 0},
		{0x80, 0x80, 4, 0},
		{255, 255, 255, 255, 255, 255, 255, 255, 255, 1, 0},
	} {
		if l, rest, ok := Decode(b); ok || l != nil || rest != nil {
			t.Error(i, l, rest, ok)
		}
	}
}

func TestMost(t *testing.T) {
	if l, _, ok := Decode(Encode(make([]bool, 65535))); !ok || len(l) != 65535 {
		t.Error(len(l), ok)
	}
	if l, _, ok := Decode(Encode(make([]bool, 65536))); ok || l != nil {
		t.Error(len(l), ok)
	}
}

func TestCount(t *testing.T) {
	if Count() != 0 || Count(false) != 0 || Count(true, false, true) != 2 {
		t.Error(Count(), Count(false), Count(true, false, true))
	}
}

func TestAnyBytes(t *testing.T) {
	rnd := rand.New(rand.NewSource(3))
	for range 20000 {
		b := make([]byte, rnd.Intn(6))
		for i := range b {
			b[i] = byte(rnd.Intn(256) >> rnd.Intn(8))
		}
		l, rest, ok := Decode(b)
		if ok && !bytes.Equal(append(Encode(l), rest...), b) {
			t.Fatalf("%x is told as %v", b, l)
		}
	}
}

func TestMemoryIsNew(t *testing.T) {
	b := []byte{3, 2, 0xa0, 5}
	_, rest, _ := Decode(b)
	rest[0] = 9
	if b[3] != 5 {
		t.Error("shared")
	}
}
