package icol

import (
	"bytes"
	"math"
	"math/rand"
	"slices"
	"testing"

	"colonnade/api"
)

func TestTell(t *testing.T) {
	far := []int64{math.MaxInt64, math.MinInt64}
	for i, x := range []struct {
		kind int
		l    []int64
		want []byte
	}{
		{api.EPlain, nil, []byte{1}},
		{api.ERuns, nil, []byte{2}},
		{api.EFrame, nil, []byte{3}},
		{api.EDict, nil, []byte{4, 0}},
		{api.EPlain, []int64{0, -1, 150}, []byte{1, 0, 1, 0xac, 2}},
		{api.ERuns, []int64{7, 7, 7, -1, 7}, []byte{2, 3, 14, 1, 1, 1, 14}},
		{api.EFrame, []int64{10, 15, 12}, []byte{3, 20, 3, 0x15, 0}}, // 000 101 010
		{api.EFrame, []int64{5, 5}, []byte{3, 10, 0}},
		{api.EFrame, []int64{-3, -2}, []byte{3, 5, 1, 0x40}},
		{api.EFrame, []int64{math.MaxInt64, math.MaxInt64 - 1}, []byte{3, 252, 255, 255, 255, 255, 255, 255, 255, 255, 1, 1, 0x80}},
		{api.EDict, []int64{9}, []byte{4, 1, 18}},
		{api.EDict, []int64{9, 9}, []byte{4, 1, 18}},
		{api.EDict, []int64{9, -1, 9}, []byte{4, 2, 1, 18, 0xa0}},
		{api.EDict, []int64{3, 2, 1}, []byte{4, 3, 2, 4, 6, 0x90}},
	} {
		got, ok := Tell(x.kind, x.l)
		if !ok || !bytes.Equal(got, x.want) {
			t.Errorf("%d %x", i, got)
		}
		l, ok := Decode(x.want, len(x.l))
		if !ok || !slices.Equal(l, x.l) {
			t.Error(i, l, ok)
		}
	}
	got, ok := Tell(api.EFrame, far)
	if want := append([]byte{3, 255, 255, 255, 255, 255, 255, 255, 255, 255, 1, 64, 255, 255, 255, 255, 255, 255, 255, 255}, make([]byte, 8)...); !ok || !bytes.Equal(got, want) {
		t.Errorf("%x", got)
	}
	for _, kind := range []int{-1, 0, 5, 257, 1 << 40} {
		if b, ok := Tell(kind, []int64{1}); ok || b != nil {
			t.Error(kind, b)
		}
	}
}

func TestEncode(t *testing.T) {
	long := slices.Repeat([]int64{1 << 40, 5}, 100)
	for i, x := range []struct {
		l    []int64
		kind byte
	}{
		{nil, 1},
		{[]int64{0}, 1},
		{[]int64{1, 2, 3}, 1},
		{[]int64{7, 7, 7, 7}, 2},
		{[]int64{1000, 1001, 1002, 1003}, 3},
		{long, 4},
		{[]int64{100, 100}, 2},
	} {
		b := Encode(x.l)
		if len(b) == 0 || b[0] != x.kind {
			t.Errorf("%d %x", i, b)
		}
		for kind := 1; kind <= 4; kind++ {
			c, _ := Tell(kind, x.l)
			if len(c) < len(b) || len(c) == len(b) && kind < int(b[0]) {
				t.Error(i, kind)
			}
		}
	}
	if b := Encode(nil); !bytes.Equal(b, []byte{1}) {
		t.Error(b)
	}
}

func TestMost(t *testing.T) {
	for kind := 1; kind <= 4; kind++ {
		l := make([]int64, 65535)
		b, ok := Tell(kind, l)
		if got, ok2 := Decode(b, 65535); !ok || !ok2 || len(got) != 65535 {
			t.Error(kind, ok, ok2)
		}
		if b, ok := Tell(kind, make([]int64, 65536)); ok || b != nil {
			t.Error(kind)
		}
	}
	if b := Encode(make([]int64, 65536)); b != nil {
		t.Error(len(b))
	}
	if l, ok := Decode([]byte{1}, 65536); ok || l != nil {
		t.Error("too many")
	}
	if l, ok := Decode([]byte{1}, -1); ok || l != nil {
		t.Error("below none")
	}
}

func TestDecodeRefuses(t *testing.T) {
	for i, x := range []struct {
		b     []byte
		count int
	}{
		{nil, 0},
		{[]byte{0}, 0},
		{[]byte{5}, 0},
		{[]byte{1}, 1},
		{[]byte{1, 2, 2}, 1},
		{[]byte{1, 0x82, 0}, 1},
		{[]byte{2, 0, 2}, 0},
		{[]byte{2, 0, 2, 1, 4}, 1},
		{[]byte{2, 2, 2}, 1},
		{[]byte{2, 1, 2, 1, 2}, 2},
		{[]byte{2, 1, 2}, 2},
		{[]byte{2, 255, 255, 255, 255, 255, 255, 255, 255, 255, 1, 2}, 2},
		{[]byte{3, 0}, 0},
		{[]byte{3, 2}, 1},
		{[]byte{3, 2, 1, 0x80}, 1},
		{[]byte{3, 2, 2, 0x10}, 2},
		{[]byte{3, 2, 1, 0x41}, 2},
		{[]byte{3, 2, 65, 0, 0, 0, 0, 0, 0, 0, 0}, 1},
		{[]byte{3, 254, 255, 255, 255, 255, 255, 255, 255, 255, 1, 1, 0x40}, 2},
		{[]byte{4}, 0},
		{[]byte{4, 1, 2}, 0},
		{[]byte{4, 0}, 1},
		{[]byte{4, 2, 2, 2, 0x40}, 2},
		{[]byte{4, 2, 4, 2, 0x40}, 2},
		{[]byte{4, 2, 2, 4, 0}, 2},
		{[]byte{4, 3, 2, 4, 6, 0x18}, 2},
		{[]byte{4, 3, 2, 4, 6, 0x1c}, 3},
		{[]byte{4, 255, 255, 255, 255, 255, 255, 255, 255, 255, 1, 2}, 2},
		{[]byte{4, 1, 2, 0}, 1},
	} {
		if l, ok := Decode(x.b, x.count); ok || l != nil {
			t.Errorf("%d %x %v", i, x.b, l)
		}
		if n, ok := At(x.b, x.count, 0); ok || n != 0 {
			t.Error(i, n)
		}
	}
}

func TestAt(t *testing.T) {
	l := []int64{4, -7, 4, 1 << 50, 4}
	for kind := 1; kind <= 4; kind++ {
		b, _ := Tell(kind, l)
		for i, want := range l {
			if n, ok := At(b, len(l), i); !ok || n != want {
				t.Error(kind, i, n)
			}
		}
		for _, i := range []int{-1, 5, 1 << 62} {
			if n, ok := At(b, len(l), i); ok || n != 0 {
				t.Error(kind, i, n)
			}
		}
		if _, ok := At(b, len(l)+20, 0); ok {
			t.Error(kind)
		}
	}
}

func TestAnyNumbersAndBytes(t *testing.T) {
	rnd := rand.New(rand.NewSource(4))
	for range 3000 {
		l := make([]int64, rnd.Intn(12))
		for i := range l {
			l[i] = int64(rnd.Uint64()) >> rnd.Intn(64)
			if i > 0 && rnd.Intn(3) == 0 {
				l[i] = l[rnd.Intn(i)]
			}
		}
		for kind := 1; kind <= 4; kind++ {
			b, ok := Tell(kind, l)
			got, ok2 := Decode(b, len(l))
			if !ok || !ok2 || !slices.Equal(got, l) {
				t.Fatal(kind, l, got)
			}
			c := bytes.Clone(b)
			c[rnd.Intn(len(c))] ^= 1 << rnd.Intn(8)
			if rnd.Intn(4) == 0 {
				c = append(c, byte(rnd.Intn(3)))
			}
			count := len(l) + rnd.Intn(2)
			if got, ok := Decode(c, count); ok {
				if again, _ := Tell(int(c[0]), got); len(got) != count || !bytes.Equal(again, c) {
					t.Fatalf("%x is told as %v", c, got)
				}
			}
		}
	}
}

func TestArgumentsStay(t *testing.T) {
	l := []int64{3, 1, 2, 1}
	for kind := 1; kind <= 4; kind++ {
		Tell(kind, l)
	}
	Encode(l)
	if !slices.Equal(l, []int64{3, 1, 2, 1}) {
		t.Error(l)
	}
}
