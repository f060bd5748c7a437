package segm

import (
	"bytes"
	"math/rand"
	"reflect"
	"slices"
	"strings"
	"testing"

	"colonnade/api"
	"colonnade/code"
	"colonnade/icol"
	"colonnade/null"
	"colonnade/pred"
	"colonnade/schm"
	"colonnade/zone"
)

func num(n int64) api.Val   { return api.Val{Kind: api.KInt, Int: n} }
func text(s string) api.Val { return api.Val{Kind: api.KBytes, Bytes: []byte(s)} }
func none(kind int) api.Val { return api.Val{Kind: kind, Null: true} }

func yes() api.Pred { return api.Pred{Kind: api.PTrue} }
func compare(col, op int, v api.Val) api.Pred {
	return api.Pred{Kind: api.PCmp, Col: col, Op: op, Val: v}
}

func schema() api.Schema {
	return api.Schema{Cols: []api.Col{{Name: "id", Kind: api.KInt}, {Name: "n", Kind: api.KInt, Null: true}, {Name: "b", Kind: api.KBytes, Null: true}}}
}

func someRows(rnd *rand.Rand, n int) [][]api.Val {
	var rows [][]api.Val
	for i := range n {
		row := []api.Val{num(int64(i * 3)), num(int64(rnd.Intn(4))), text(strings.Repeat("ab", rnd.Intn(3)))}
		if rnd.Intn(4) == 0 {
			row[1] = none(api.KInt)
		}
		if rnd.Intn(4) == 0 {
			row[2] = none(api.KBytes)
		}
		rows = append(rows, row)
	}
	return rows
}

func make1(t *testing.T, rows [][]api.Val) *Segment {
	t.Helper()
	g, ok := Make(schema(), rows)
	if !ok {
		t.Fatal("not made")
	}
	return g
}

func TestMakeKeepsRows(t *testing.T) {
	rnd := rand.New(rand.NewSource(10))
	for n := 1; n <= 64; n++ {
		rows := someRows(rnd, n)
		g := make1(t, rows)
		if g.Count != n || !reflect.DeepEqual(g.Zones, zone.Of(schema(), rows)) {
			t.Error(n, g.Count, g.Zones)
		}
		open, ok := Open(schema(), g.Bytes())
		if !ok || !bytes.Equal(open.Bytes(), g.Bytes()) {
			t.Fatal(n, "not opened")
		}
		for _, g := range []*Segment{g, open} {
			for i, want := range rows {
				row, ok := g.Row(i)
				if !ok || !schm.Same([][]api.Val{row}, [][]api.Val{want}) {
					t.Error(n, i, row)
				}
				for col := range want {
					v, ok := g.Value(col, i)
					if !ok || !schm.Same([][]api.Val{{v}}, [][]api.Val{{want[col]}}) {
						t.Error(n, i, col, v)
					}
				}
			}
		}
	}
}

func TestMakeRefuses(t *testing.T) {
	rnd := rand.New(rand.NewSource(1))
	fit := someRows(rnd, 1)[0]
	for i, x := range []struct {
		s    api.Schema
		rows [][]api.Val
	}{
		{schema(), nil},
		{schema(), someRows(rnd, 65)},
		{schema(), [][]api.Val{fit, fit[:2]}},
		{schema(), [][]api.Val{fit, {none(api.KInt), num(1), text("")}}},
		{api.Schema{}, [][]api.Val{nil}},
		{api.Schema{Cols: []api.Col{{Name: "ID", Kind: api.KInt}}}, [][]api.Val{{num(1)}}},
	} {
		if g, ok := Make(x.s, x.rows); ok || g != nil {
			t.Error(i)
		}
	}
}

func TestBytes(t *testing.T) {
	g := make1(t, [][]api.Val{{num(1), none(api.KInt), text("x")}, {num(2), num(7), text("x")}})
	col := func(nulls []bool, vals ...byte) []byte { return append(null.Encode(nulls), vals...) }
	want := []byte{2}
	want = code.Bytes(want, col([]bool{false, false}, icol.Encode([]int64{1, 2})...))
	want = code.Bytes(want, col([]bool{true, false}, icol.Encode([]int64{7})...))
	want = code.Bytes(want, col([]bool{false, false}, 2, 2, 1, 'x'))
	if got := g.Bytes(); !bytes.Equal(got, want) {
		t.Errorf("%x, not %x", got, want)
	}
}

func TestOpenRefuses(t *testing.T) {
	s := api.Schema{Cols: []api.Col{{Name: "id", Kind: api.KInt}}}
	nulls := api.Schema{Cols: []api.Col{{Name: "id", Kind: api.KInt}, {Name: "n", Kind: api.KInt}}}
	ints := func(nulls []bool, kind int, l ...int64) []byte {
		b, _ := icol.Tell(kind, l)
		return append(null.Encode(nulls), b...)
	}
	two := ints(make([]bool, 2), api.EPlain, 1, 2)
	for i, x := range []struct {
		s  api.Schema
		b  []byte
		ok bool
	}{
		{s, code.Bytes([]byte{2}, two), true},
		{s, nil, false},
		{s, []byte{0}, false},
		{s, []byte{2}, false},
		{s, []byte{255, 255, 255, 255, 255, 255, 255, 255, 255, 1}, false},
		{s, code.Bytes([]byte{3}, two), false},
		{s, code.Bytes([]byte{1}, two), false},
		{s, append(code.Bytes([]byte{2}, two), 0), false},
		{s, code.Bytes([]byte{2}, append(bytes.Clone(two), 0)), false},
		{s, code.Bytes([]byte{0x82, 0}, two), false},
		{s, code.Bytes([]byte{2}, ints(make([]bool, 2), api.EFrame, 1, 2)), false}, // not the fewest bytes
		{s, code.Bytes([]byte{3}, ints(make([]bool, 3), api.EPlain, 5, 5, 5)), false},
		{s, code.Bytes([]byte{2}, ints(make([]bool, 2), api.EPlain, 1, 2, 3)), false},
		{s, code.Bytes([]byte{2}, ints([]bool{true, false}, api.EPlain, 1)), false}, // a key that is null
		{s, code.Bytes(code.Bytes([]byte{2}, two), two), false},
		{nulls, code.Bytes([]byte{2}, two), false},
		{nulls, code.Bytes(code.Bytes([]byte{2}, two), two), true},
		{nulls, code.Bytes(code.Bytes([]byte{2}, two), ints([]bool{true, false}, api.EPlain, 1)), false},
		{api.Schema{}, []byte{1}, false},
		{s, code.Bytes([]byte{65}, ints(make([]bool, 65), api.ERuns, make([]int64, 65)...)), false},
		{s, code.Bytes([]byte{64}, ints(make([]bool, 64), api.ERuns, make([]int64, 64)...)), true},
	} {
		if g, ok := Open(x.s, x.b); ok != x.ok || !ok && g != nil {
			t.Error(i, ok)
		}
	}
}

// TestAnyBytes: W4.
func TestAnyBytes(t *testing.T) {
	rnd := rand.New(rand.NewSource(2))
	opened := 0
	for range 20000 {
		b := make1(t, someRows(rnd, 1+rnd.Intn(5))).Bytes()
		for range 1 + rnd.Intn(2) {
			b[rnd.Intn(len(b))] ^= 1 << rnd.Intn(8)
		}
		if g, ok := Open(schema(), b); ok {
			opened++
			if !bytes.Equal(g.Bytes(), b) {
				t.Fatalf("%x", b)
			}
		}
	}
	if opened == 0 {
		t.Error("none opened")
	}
}

func TestRowAndValueOfNone(t *testing.T) {
	g := make1(t, someRows(rand.New(rand.NewSource(1)), 3))
	for _, i := range []int{-1, 3, 1 << 62} {
		if row, ok := g.Row(i); ok || row != nil {
			t.Error(i, row)
		}
		if v, ok := g.Value(0, i); ok || !reflect.DeepEqual(v, api.Val{}) {
			t.Error(i, v)
		}
		if v, ok := g.Value(i, 0); ok || !reflect.DeepEqual(v, api.Val{}) {
			t.Error(i, v)
		}
	}
}

func TestPick(t *testing.T) {
	rnd := rand.New(rand.NewSource(11))
	preds := []api.Pred{yes(), pred.Not(yes()), {Kind: api.PNull, Col: 1}, pred.Not(api.Pred{Kind: api.PNull, Col: 2}), compare(2, api.CEq, text("ab"))}
	for op := api.CEq; op <= api.CGe; op++ {
		for n := range int64(5) {
			preds = append(preds, compare(0, op, num(n*3)), compare(1, op, num(n)))
		}
	}
	for range 200 {
		rows := someRows(rnd, 1+rnd.Intn(6))
		g := make1(t, rows)
		for _, p := range preds {
			var want []int
			for i, row := range rows {
				if pred.Eval(p, row) == api.VTrue {
					want = append(want, i)
				}
			}
			if got := g.Pick(p); !slices.Equal(got, want) {
				t.Fatal(p, got, want)
			}
			if len(want) > 0 && !g.May(p) || g.May(p) != zone.May(p, g.Zones, g.Count) {
				t.Fatal(p, "may not")
			}
		}
	}
}

// TestPickLeavesOut: of a segment whose zones say no, no row is looked at.
func TestPickLeavesOut(t *testing.T) {
	g := make1(t, [][]api.Val{{num(5), num(1), text("a")}})
	g.Zones[0].Max = num(4)
	if got := g.Pick(compare(0, api.CEq, num(5))); got != nil {
		t.Error(got)
	}
	g.Zones[0].Max = num(5)
	if got := g.Pick(compare(0, api.CEq, num(5))); !slices.Equal(got, []int{0}) {
		t.Error(got)
	}
}

func TestMemoryIsNew(t *testing.T) {
	rows := [][]api.Val{{num(1), num(2), text("ab")}, {num(2), num(2), text("ab")}}
	g := make1(t, rows)
	b := g.Bytes()
	rows[0][2].Bytes[0] = 'z'
	row, _ := g.Row(0)
	row[2].Bytes[0] = 'y'
	g.Bytes()[0] = 9
	v, _ := g.Value(2, 0)
	if string(v.Bytes) != "ab" || !bytes.Equal(g.Bytes(), b) || string(g.Zones[2].Min.Bytes) != "ab" {
		t.Error("shared", v)
	}
	open, _ := Open(schema(), b)
	b[0] = 9
	if open.Bytes()[0] != 2 {
		t.Error("kept")
	}
}

func TestPromoted(t *testing.T) {
	g := make1(t, someRows(rand.New(rand.NewSource(1)), 3))
	if g.Meta.Count != g.Count || g.Meta.May(yes()) != g.May(yes()) || (Meta{}).May(yes()) {
		t.Error("Count and May are Meta's")
	}
}
