package bitp

import (
	"bytes"
	"math/rand"
	"slices"
	"testing"
)

func low(u uint64, n int) uint64 {
	if n >= 64 {
		return u
	}
	return u & (1<<n - 1)
}

// slow lays the bits one by one, as promise 1.1 tells it.
func slow(n int, l []uint64) []byte {
	var bits []byte
	for _, u := range l {
		for k := n - 1; k >= 0; k-- {
			bits = append(bits, byte(u>>k&1))
		}
	}
	for len(bits)%8 != 0 {
		bits = append(bits, 0)
	}
	var b []byte
	for i := 0; i < len(bits); i += 8 {
		var x byte
		for _, bit := range bits[i : i+8] {
			x = x<<1 | bit
		}
		b = append(b, x)
	}
	return b
}

func TestWidth(t *testing.T) {
	for u, want := range map[uint64]int{0: 0, 1: 1, 2: 2, 3: 2, 4: 3, 255: 8, 256: 9, 1<<63 - 1: 63, 1 << 63: 64, 1<<64 - 1: 64} {
		if got := Width(u); got != want {
			t.Error(u, got, want)
		}
	}
}

func TestPackExample(t *testing.T) {
	if got := Pack(3, 5); !bytes.Equal(got, []byte{0xa0}) {
		t.Errorf("%x", got)
	}
	if got := Pack(0, 1, 2); len(got) != 0 {
		t.Errorf("%x", got)
	}
	if got := Pack(-1, 7); len(got) != 0 {
		t.Errorf("%x", got)
	}
	if got := Pack(65, 1); !bytes.Equal(got, []byte{0, 0, 0, 0, 0, 0, 0, 1}) {
		t.Errorf("%x", got)
	}
	if got := Pack(9); len(got) != 0 {
		t.Errorf("%x", got)
	}
}

func TestPackIsReadBack(t *testing.T) {
	rnd := rand.New(rand.NewSource(1))
	for n := 0; n <= 64; n++ {
		for count := range 20 {
			l := make([]uint64, count)
			for i := range l {
				l[i] = rnd.Uint64() >> rnd.Intn(64)
			}
			b := Pack(n, l...)
			if !bytes.Equal(b, slow(n, l)) {
				t.Fatalf("%d %v: %x", n, l, b)
			}
			for i := range l {
				l[i] = low(l[i], n)
			}
			got, ok := Unpack(b, n, count)
			if !ok || !slices.Equal(got, l) {
				t.Fatal(n, l, got, ok)
			}
			for i, want := range l {
				if u, ok := At(b, n, i); !ok || u != want {
					t.Fatal(n, i, u, ok)
				}
			}
		}
	}
}

func TestUnpackRefuses(t *testing.T) {
	for i, x := range []struct {
		b        []byte
		n, count int
	}{
		{[]byte{0xa0}, 3, -1},
		{nil, 0, 65536},
		{nil, 0, -1},
		{[]byte{0}, 0, 1},
		{nil, 1, 1},
		{[]byte{0xa0, 0}, 3, 1},
		{[]byte{0xa1}, 3, 1},
		{[]byte{0xb0}, 3, 1},
		{[]byte{0, 1}, 5, 3},
		{nil, 64, 1 << 60},
	} {
		if got, ok := Unpack(x.b, x.n, x.count); ok || got != nil {
			t.Error(i, got, ok)
		}
	}
	if got, ok := Unpack(nil, -7, 3); !ok || len(got) != 3 {
		t.Error(got, ok)
	}
	if got, ok := Unpack(make([]byte, 8), 70, 1); !ok || len(got) != 1 {
		t.Error(got, ok)
	}
	if got, ok := Unpack(nil, 0, 65535); !ok || len(got) != 65535 {
		t.Error(len(got), ok)
	}
	if got, ok := Unpack([]byte{0xff, 0xfe}, 5, 3); !ok || !slices.Equal(got, []uint64{31, 31, 31}) {
		t.Error(got, ok)
	}
}

func TestAtEdges(t *testing.T) {
	for i, x := range []struct {
		b    []byte
		n, i int
		want uint64
		ok   bool
	}{
		{[]byte{0xa1}, 3, 0, 5, true},
		{[]byte{0xa1}, 3, 1, 0, true},
		{[]byte{0xa1}, 3, 2, 0, false},
		{[]byte{0xa1}, 3, -1, 0, false},
		{nil, 0, 0, 0, true},
		{nil, 0, 65534, 0, true},
		{nil, 0, 65535, 0, false},
		{nil, 0, -1, 0, false},
		{[]byte{1}, -5, 3, 0, true},
		{make([]byte, 8), 99, 0, 0, true},
		{make([]byte, 8), 99, 1, 0, false},
		{make([]byte, 16), 64, 1 << 58, 0, false},
		{make([]byte, 16), 64, 1<<63 - 1, 0, false},
		{nil, 1, 0, 0, false},
	} {
		if got, ok := At(x.b, x.n, x.i); got != x.want || ok != x.ok {
			t.Error(i, got, ok)
		}
	}
}

func TestArgumentsStay(t *testing.T) {
	l := []uint64{1, 2, 3}
	b := Pack(7, l...)
	c := bytes.Clone(b)
	got, _ := Unpack(b, 7, 3)
	got[0] = 99
	if !slices.Equal(l, []uint64{1, 2, 3}) || !bytes.Equal(b, c) {
		t.Error(l, b)
	}
}
