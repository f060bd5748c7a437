package cols

import (
	"bytes"
	"cmp"
	"slices"
	"testing"

	"colonnade/code"
)

// small is a coder of numbers, each in a byte.
func small() Coder[int] {
	return Coder[int]{
		Put: func(b []byte, v int) []byte { return append(b, byte(v)) },
		Take: func(r *code.Reader) int {
			return int(r.Num())
		},
		Compare: cmp.Compare[int],
		Copy:    func(v int) int { return v },
	}
}

type way struct {
	name string
	tell func([]int) []byte
	read func(*code.Reader, int) ([]int, bool)
}

func ways() []way {
	c := small()
	return []way{{"plain", c.Plain, c.ReadPlain}, {"runs", c.Runs, c.ReadRuns}, {"dict", c.Dict, c.ReadDict}}
}

func TestTellAndRead(t *testing.T) {
	for i, x := range []struct {
		l    []int
		want [3][]byte
	}{
		{nil, [3][]byte{nil, nil, {0}}},
		{[]int{5}, [3][]byte{{5}, {1, 5}, {1, 5}}},
		{[]int{5, 5, 5}, [3][]byte{{5, 5, 5}, {3, 5}, {1, 5}}},
		{[]int{5, 3, 3, 5}, [3][]byte{{5, 3, 3, 5}, {1, 5, 2, 3, 1, 5}, {2, 3, 5, 0x90}}},
		{[]int{1, 2, 3}, [3][]byte{{1, 2, 3}, {1, 1, 1, 2, 1, 3}, {3, 1, 2, 3, 0x18}}},
	} {
		l := slices.Clone(x.l)
		for j, w := range ways() {
			if got := w.tell(l); !bytes.Equal(got, x.want[j]) {
				t.Errorf("%d %s %x", i, w.name, got)
			}
			if got, ok := w.read(code.Read(x.want[j]), len(l)); !ok || !slices.Equal(got, l) {
				t.Error(i, w.name, got, ok)
			}
			if got, ok := w.read(code.Read(append(bytes.Clone(x.want[j]), 1)), len(l)); ok || got != nil {
				t.Error(i, w.name, "more", got)
			}
			if n := len(x.want[j]); n > 0 {
				if got, ok := w.read(code.Read(x.want[j][:n-1]), len(l)); ok || got != nil {
					t.Error(i, w.name, "less", got)
				}
			}
		}
		if !slices.Equal(l, x.l) {
			t.Error(i, "changed", l)
		}
	}
}

func TestReadRefuses(t *testing.T) {
	for i, x := range []struct {
		way   int
		b     []byte
		count int
	}{
		{0, []byte{5, 5}, 3},
		{1, []byte{0, 5}, 1},
		{1, []byte{0, 5, 1, 6}, 1},
		{1, []byte{2, 5}, 1},
		{1, []byte{1, 5, 1, 5}, 2},
		{1, []byte{1, 5}, 2},
		{2, []byte{0}, 1},
		{2, []byte{1, 5}, 0},
		{2, []byte{2, 5, 3, 0x40}, 2},
		{2, []byte{2, 5, 5, 0x40}, 2},
		{2, []byte{2, 3, 5, 0}, 2},
		{2, []byte{2, 3, 5, 0xc0}, 2},
		{2, []byte{3, 1, 2, 3, 0x1c}, 3},
		{2, []byte{3, 1, 2, 3, 0x18}, 2},
	} {
		if got, ok := ways()[x.way].read(code.Read(x.b), x.count); ok || got != nil {
			t.Error(i, got)
		}
	}
}

func TestShortest(t *testing.T) {
	told := map[int][]byte{1: {1, 1, 1}, 2: {2, 2}, 3: {3}, 4: {4, 4}, 5: {5, 5}}
	for i, x := range []struct {
		kinds int
		ok    []int
		want  byte
	}{
		{5, []int{1, 2, 4, 5}, 2},
		{5, []int{1, 5, 4}, 4},
		{1, []int{1, 2}, 1},
		{2, []int{1, 2}, 2},
		{3, []int{1, 2, 3}, 3},
	} {
		got := Shortest(x.kinds, func(kind int) ([]byte, bool) { return told[kind], slices.Contains(x.ok, kind) })
		if len(got) == 0 || got[0] != x.want {
			t.Error(i, got)
		}
	}
	if got := Shortest(4, func(int) ([]byte, bool) { return nil, false }); got != nil {
		t.Error(got)
	}
}
