package bcol

import (
	"bytes"
	"math/rand"
	"slices"
	"strings"
	"testing"

	"colonnade/api"
)

func list(words ...string) [][]byte {
	var l [][]byte
	for _, w := range words {
		l = append(l, []byte(w))
	}
	return l
}

func same(a, b [][]byte) bool { return slices.EqualFunc(a, b, bytes.Equal) }

func TestTell(t *testing.T) {
	for i, x := range []struct {
		kind int
		l    [][]byte
		want string
	}{
		{api.EPlain, nil, "\x01"},
		{api.ERuns, nil, "\x02"},
		{api.EDict, nil, "\x04\x00"},
		{api.EPlain, list("ab", "", "c"), "\x01\x02ab\x00\x01c"},
		{api.ERuns, list("ab", "ab", "", "ab"), "\x02\x02\x02ab\x01\x00\x01\x02ab"},
		{api.EDict, list("b", "", "b", "ab"), "\x04\x03\x00\x02ab\x01b\x89"}, // 10 00 10 01
		{api.EDict, list("b"), "\x04\x01\x01b"},
		{api.EDict, list("b", "a"), "\x04\x02\x01a\x01b\x80"},
	} {
		got, ok := Tell(x.kind, x.l)
		if !ok || string(got) != x.want {
			t.Errorf("%d %q", i, got)
		}
		if l, ok := Decode([]byte(x.want), len(x.l)); !ok || !same(l, x.l) {
			t.Error(i, l, ok)
		}
	}
	for _, kind := range []int{-1, 0, 3, 5, 260} {
		if b, ok := Tell(kind, list("a")); ok || b != nil {
			t.Error(kind, b)
		}
	}
}

func TestEncode(t *testing.T) {
	for i, x := range []struct {
		l    [][]byte
		kind byte
	}{
		{nil, 1},
		{list("a", "b"), 1},
		{list("a", "a", "a", "a", "a"), 2},
		{list("abc", "abd", "abc", "abd", "abc"), 4},
	} {
		b := Encode(x.l)
		if len(b) == 0 || b[0] != x.kind {
			t.Errorf("%d %x", i, b)
		}
		for _, kind := range []int{1, 2, 4} {
			c, _ := Tell(kind, x.l)
			if len(c) < len(b) || len(c) == len(b) && kind < int(b[0]) {
				t.Error(i, kind)
			}
		}
	}
	if b := Encode(nil); !bytes.Equal(b, []byte{1}) {
		t.Error(b)
	}
}

func TestMost(t *testing.T) {
	long := list(strings.Repeat("x", 64))
	tooLong := list("a", strings.Repeat("x", 65))
	for _, kind := range []int{1, 2, 4} {
		b, ok := Tell(kind, long)
		if l, ok2 := Decode(b, 1); !ok || !ok2 || !same(l, long) {
			t.Error(kind)
		}
		if b, ok := Tell(kind, tooLong); ok || b != nil {
			t.Error(kind)
		}
		b, ok = Tell(kind, make([][]byte, 65535))
		if l, ok2 := Decode(b, 65535); !ok || !ok2 || len(l) != 65535 {
			t.Error(kind, ok, ok2)
		}
		if b, ok := Tell(kind, make([][]byte, 65536)); ok || b != nil {
			t.Error(kind)
		}
	}
	if Encode(tooLong) != nil || Encode(make([][]byte, 65536)) != nil {
		t.Error("too long, or too many")
	}
	if l, ok := Decode(append([]byte{1, 65}, make([]byte, 65)...), 1); ok || l != nil {
		t.Error("too long")
	}
}

func TestDecodeRefuses(t *testing.T) {
	for i, x := range []struct {
		b     string
		count int
	}{
		{"", 0},
		{"\x00", 0},
		{"\x03", 0},
		{"\x05", 0},
		{"\x01", -1},
		{"\x01", 65536},
		{"\x01", 1},
		{"\x01\x01", 1},
		{"\x01\x01a\x00", 1},
		{"\x02\x00\x01a\x01\x01b", 1},
		{"\x02\x01\x01a\x01\x01a", 2},
		{"\x02\x03\x01a", 2},
		{"\x02\x01\x01a", 2},
		{"\x04", 0},
		{"\x04\x00", 1},
		{"\x04\x01\x01a", 0},
		{"\x04\x02\x01b\x01a\x40", 2},
		{"\x04\x02\x01a\x01a\x40", 2},
		{"\x04\x02\x01a\x01b\x00", 2},
		{"\x04\x02\x01a\x01b\x41", 2},
		{"\x04\x02\x01a\x01b\x40\x00", 2},
	} {
		if l, ok := Decode([]byte(x.b), x.count); ok || l != nil {
			t.Errorf("%d %q %v", i, x.b, l)
		}
		if v, ok := At([]byte(x.b), x.count, 0); ok || v != nil {
			t.Error(i, v)
		}
	}
}

func TestAt(t *testing.T) {
	l := list("a", "", "bcd", "a", "a")
	for _, kind := range []int{1, 2, 4} {
		b, _ := Tell(kind, l)
		for i, want := range l {
			if v, ok := At(b, len(l), i); !ok || !bytes.Equal(v, want) {
				t.Error(kind, i, v)
			}
		}
		for _, i := range []int{-1, 5, 1 << 62} {
			if v, ok := At(b, len(l), i); ok || v != nil {
				t.Error(kind, i, v)
			}
		}
	}
}

func TestAnyValuesAndBytes(t *testing.T) {
	rnd := rand.New(rand.NewSource(5))
	for range 3000 {
		l := make([][]byte, rnd.Intn(9))
		for i := range l {
			l[i] = []byte(strings.Repeat("ab", rnd.Intn(3)))
			if len(l[i]) > 0 && rnd.Intn(2) == 0 {
				l[i][rnd.Intn(len(l[i]))] = byte(rnd.Intn(256))
			}
		}
		for _, kind := range []int{1, 2, 4} {
			b, ok := Tell(kind, l)
			got, ok2 := Decode(b, len(l))
			if !ok || !ok2 || !same(got, l) {
				t.Fatal(kind, l, got)
			}
			c := bytes.Clone(b)
			c[rnd.Intn(len(c))] ^= 1 << rnd.Intn(8)
			count := len(l) + rnd.Intn(2)
			if got, ok := Decode(c, count); ok {
				if again, _ := Tell(int(c[0]), got); len(got) != count || !bytes.Equal(again, c) {
					t.Fatalf("%x is told as %v", c, got)
				}
			}
		}
	}
}

func TestMemoryIsNew(t *testing.T) {
	in := list("ab", "ab", "cd")
	for _, kind := range []int{1, 2, 4} {
		b, _ := Tell(kind, in)
		kept := bytes.Clone(b)
		l, _ := Decode(b, 3)
		l[0][0] = 'z'
		_ = append(l[0], 'y', 'y', 'y', 'y')
		if string(l[1]) != "ab" || string(l[2]) != "cd" || !bytes.Equal(b, kept) || string(in[0]) != "ab" {
			t.Error(kind, l)
		}
	}
}
