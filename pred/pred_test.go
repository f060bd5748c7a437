package pred

import (
	"slices"
	"strings"
	"testing"

	"colonnade/api"
)

func num(n int64) api.Val   { return api.Val{Kind: api.KInt, Int: n} }
func text(s string) api.Val { return api.Val{Kind: api.KBytes, Bytes: []byte(s)} }
func none(kind int) api.Val { return api.Val{Kind: kind, Null: true} }

func yes() api.Pred { return api.Pred{Kind: api.PTrue} }
func compare(col, op int, v api.Val) api.Pred {
	return api.Pred{Kind: api.PCmp, Col: col, Op: op, Val: v}
}
func isNull(col int) api.Pred { return api.Pred{Kind: api.PNull, Col: col} }

func schema() api.Schema {
	return api.Schema{Cols: []api.Col{{Name: "id", Kind: api.KInt}, {Name: "n", Kind: api.KInt, Null: true}, {Name: "b", Kind: api.KBytes, Null: true}}}
}

func deep(n int) api.Pred {
	p := yes()
	for range n - 1 {
		p = Not(p)
	}
	return p
}

func wide(n ...int) api.Pred {
	p := Any()
	for _, k := range n {
		p.List = append(p.List, All(slices.Repeat([]api.Pred{yes()}, k)...))
	}
	return p
}

func TestOk(t *testing.T) {
	for i, x := range []struct {
		p    api.Pred
		want bool
	}{
		{api.Pred{}, false},
		{yes(), true},
		{api.Pred{Kind: api.PTrue, Col: 1}, false},
		{api.Pred{Kind: api.PTrue, Op: 1}, false},
		{api.Pred{Kind: api.PTrue, Val: num(0)}, false},
		{api.Pred{Kind: api.PTrue, Val: api.Val{Null: true}}, false},
		{api.Pred{Kind: api.PTrue, Val: api.Val{Int: 1}}, false},
		{api.Pred{Kind: api.PTrue, Val: api.Val{Bytes: []byte{1}}}, false},
		{api.Pred{Kind: api.PTrue, Val: api.Val{Bytes: []byte{}}, List: []api.Pred{}}, true},
		{api.Pred{Kind: api.PTrue, List: []api.Pred{yes()}}, false},
		{compare(0, api.CEq, num(5)), true},
		{compare(2, api.CGe, text("x")), true},
		{compare(1, api.CGt, num(5)), true},
		{compare(0, 0, num(5)), false},
		{compare(0, 7, num(5)), false},
		{compare(-1, api.CEq, num(5)), false},
		{compare(3, api.CEq, num(5)), false},
		{compare(1, api.CEq, none(api.KInt)), false},
		{compare(0, api.CEq, text("x")), false},
		{compare(2, api.CEq, num(5)), false},
		{compare(0, api.CEq, api.Val{Kind: api.KInt, Bytes: []byte{1}}), false},
		{compare(2, api.CEq, text(strings.Repeat("x", 64))), true},
		{compare(2, api.CEq, text(strings.Repeat("x", 65))), false},
		{api.Pred{Kind: api.PCmp, Op: api.CEq, Val: num(1), List: []api.Pred{yes()}}, false},
		{isNull(0), true},
		{isNull(2), true},
		{isNull(3), false},
		{isNull(-1), false},
		{api.Pred{Kind: api.PNull, Op: 1}, false},
		{api.Pred{Kind: api.PNull, Val: num(1)}, false},
		{api.Pred{Kind: api.PNull, List: []api.Pred{yes()}}, false},
		{All(), true},
		{Any(), true},
		{All(slices.Repeat([]api.Pred{yes()}, 8)...), true},
		{All(slices.Repeat([]api.Pred{yes()}, 9)...), false},
		{Any(slices.Repeat([]api.Pred{yes()}, 9)...), false},
		{Any(yes(), api.Pred{}), false},
		{api.Pred{Kind: api.PAnd, Col: 1}, false},
		{api.Pred{Kind: api.POr, Op: 1}, false},
		{api.Pred{Kind: api.POr, Val: num(1)}, false},
		{Not(isNull(1)), true},
		{api.Pred{Kind: api.PNot}, false},
		{api.Pred{Kind: api.PNot, List: []api.Pred{yes(), yes()}}, false},
		{api.Pred{Kind: api.PNot, Col: 1, List: []api.Pred{yes()}}, false},
		{api.Pred{Kind: 7}, false},
		{api.Pred{Kind: -1}, false},
		{deep(5), true},
		{deep(6), false},
	} {
		if got := Ok(schema(), x.p); got != x.want {
			t.Error(i, got)
		}
	}
}

func TestOkCounts(t *testing.T) {
	// One, 8 below it, and so many below these.
	for i, x := range []struct {
		p    api.Pred
		want bool
	}{
		{wide(7, 7, 7, 7, 7, 7, 7, 6), true},
		{wide(7, 7, 7, 7, 7, 7, 7, 7), false},
		{wide(8, 8, 8, 8, 8, 8, 7, 0), true},
		{wide(8, 8, 8, 8, 8, 8, 8, 0), false},
	} {
		if got := Ok(schema(), x.p); got != x.want {
			t.Error(i, got)
		}
	}
}

func TestEvalCmp(t *testing.T) {
	row := []api.Val{num(5), none(api.KInt), text("m")}
	for op, want := range map[int][3]int{ // against less, same, more
		api.CEq: {api.VFalse, api.VTrue, api.VFalse},
		api.CNe: {api.VTrue, api.VFalse, api.VTrue},
		api.CLt: {api.VFalse, api.VFalse, api.VTrue},
		api.CLe: {api.VFalse, api.VTrue, api.VTrue},
		api.CGt: {api.VTrue, api.VFalse, api.VFalse},
		api.CGe: {api.VTrue, api.VTrue, api.VFalse},
	} {
		for i, n := range []int64{4, 5, 6} {
			if got := Eval(compare(0, op, num(n)), row); got != want[i] {
				t.Error(op, n, got)
			}
			if got := Eval(compare(1, op, num(n)), row); got != api.VNone {
				t.Error(op, n, got)
			}
		}
		for i, s := range []string{"a", "m", "z"} {
			if got := Eval(compare(2, op, text(s)), row); got != want[i] {
				t.Error(op, s, got)
			}
		}
	}
}

func TestEval(t *testing.T) {
	row := []api.Val{num(5), none(api.KInt), text("m")}
	no, unknown := Not(yes()), compare(1, api.CEq, num(1))
	for i, x := range []struct {
		p    api.Pred
		want int
	}{
		{yes(), api.VTrue},
		{no, api.VFalse},
		{unknown, api.VNone},
		{Not(unknown), api.VNone},
		{Not(no), api.VTrue},
		{isNull(1), api.VTrue},
		{isNull(2), api.VFalse},
		{Not(isNull(1)), api.VFalse},
		{All(), api.VTrue},
		{Any(), api.VFalse},
		{All(yes(), yes()), api.VTrue},
		{All(yes(), unknown), api.VNone},
		{All(unknown, no), api.VFalse},
		{All(no, unknown), api.VFalse},
		{All(unknown, yes()), api.VNone},
		{Any(no, no), api.VFalse},
		{Any(no, unknown), api.VNone},
		{Any(unknown, yes()), api.VTrue},
		{Any(yes(), unknown), api.VTrue},
		{Any(unknown, no), api.VNone},
	} {
		if got := Eval(x.p, row); got != x.want {
			t.Error(i, got)
		}
	}
}

func TestSame(t *testing.T) {
	l := []api.Pred{
		yes(), All(), Any(), isNull(1), isNull(2), Not(yes()), Not(isNull(1)), compare(0, api.CEq, num(1)), compare(0, api.CEq, num(2)),
		compare(0, api.CNe, num(1)), compare(1, api.CEq, num(1)), compare(2, api.CEq, text("a")), compare(2, api.CEq, text("b")),
		All(yes()), All(yes(), yes()), All(yes(), isNull(1)), All(isNull(1), yes()), Any(yes()), deep(4), deep(5), wide(3, 4), wide(4, 3),
	}
	for i, a := range l {
		for j, b := range l {
			if Same(a, b) != (i == j) {
				t.Error(i, j)
			}
		}
	}
	empty := api.Pred{Kind: api.PTrue, Val: api.Val{Bytes: []byte{}}, List: []api.Pred{}}
	if !Same(yes(), empty) {
		t.Error("empty and nil")
	}
}

// TestRowsThatAreShort: what a row does not have is nothing to ask of.
func TestRowsThatAreShort(t *testing.T) {
	row := []api.Val{num(5)}
	for i, p := range []api.Pred{compare(1, api.CEq, num(1)), isNull(1), compare(-1, api.CEq, num(1)), isNull(-1)} {
		if got := Eval(p, row); got != api.VNone {
			t.Error(i, got)
		}
	}
	if got := Eval(isNull(0), row); got != api.VFalse {
		t.Error(got)
	}
}

func TestPredsThatAreNotOkEnd(t *testing.T) {
	row := []api.Val{num(5)}
	loop := make([]api.Pred, 9)
	for i := range loop {
		loop[i] = api.Pred{Kind: api.PAnd + i%3, List: loop[i%9:]}
	}
	one := make([]api.Pred, 1)
	one[0] = api.Pred{Kind: api.PNot, List: one}
	for i, p := range []api.Pred{loop[0], loop[1], one[0], {Kind: api.PNot}, compare(9, 9, num(1)), compare(-1, 1, num(1)), isNull(-1), isNull(7), {Kind: 99}, {Kind: api.PNot, List: loop[:3]}} {
		if Ok(schema(), p) {
			t.Error(i)
		}
		Eval(p, row)
		Eval(p, nil)
		Same(p, p)
		All(p, p)
		Any(p)
		Not(p)
	}
}

func TestMemoryIsNew(t *testing.T) {
	l := []api.Pred{compare(2, api.CEq, text("ab")), yes(), yes()}
	p := All(l[:2]...)
	q := Not(l[0])
	p.List[0].Val.Bytes[0] = 'z'
	q.List[0].Val.Bytes[0] = 'z'
	r := Any(l[:2]...)
	r.List[0].Val.Bytes[0] = 'z'
	r.List[1] = Any()
	_ = append(p.List, Any())
	if string(l[0].Val.Bytes) != "ab" || l[1].Kind != api.PTrue || l[2].Kind != api.PTrue {
		t.Error("shared", l)
	}
}
