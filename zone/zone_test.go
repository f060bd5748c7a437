package zone

import (
	"math/rand"
	"reflect"
	"slices"
	"testing"

	"colonnade/api"
	"colonnade/pred"
)

func num(n int64) api.Val   { return api.Val{Kind: api.KInt, Int: n} }
func text(s string) api.Val { return api.Val{Kind: api.KBytes, Bytes: []byte(s)} }
func none(kind int) api.Val { return api.Val{Kind: kind, Null: true} }

func yes() api.Pred { return api.Pred{Kind: api.PTrue} }
func compare(col, op int, v api.Val) api.Pred {
	return api.Pred{Kind: api.PCmp, Col: col, Op: op, Val: v}
}
func isNull(col int) api.Pred { return api.Pred{Kind: api.PNull, Col: col} }

func schema() api.Schema {
	return api.Schema{Cols: []api.Col{{Name: "id", Kind: api.KInt}, {Name: "n", Kind: api.KInt, Null: true}, {Name: "b", Kind: api.KBytes, Null: true}}}
}

func TestOf(t *testing.T) {
	for i, x := range []struct {
		rows [][]api.Val
		want []api.Zone
	}{
		{nil, []api.Zone{{Min: none(1), Max: none(1)}, {Min: none(1), Max: none(1)}, {Min: none(2), Max: none(2)}}},
		{[][]api.Val{{num(3), none(1), text("b")}}, []api.Zone{{Min: num(3), Max: num(3)}, {Nulls: 1, Min: none(1), Max: none(1)}, {Min: text("b"), Max: text("b")}}},
		{
			[][]api.Val{{num(3), none(1), text("b")}, {num(-1), num(9), none(2)}, {num(7), num(4), text("ab")}},
			[]api.Zone{{Min: num(-1), Max: num(7)}, {Nulls: 1, Min: num(4), Max: num(9)}, {Nulls: 1, Min: text("ab"), Max: text("b")}},
		},
		{[][]api.Val{{num(1), none(1), none(2)}, {num(2), none(1), none(2)}}, []api.Zone{{Min: num(1), Max: num(2)}, {Nulls: 2, Min: none(1), Max: none(1)}, {Nulls: 2, Min: none(2), Max: none(2)}}},
	} {
		if got := Of(schema(), x.rows); !reflect.DeepEqual(got, x.want) {
			t.Error(i, got)
		}
	}
	if got := Of(api.Schema{}, nil); len(got) != 0 {
		t.Error(got)
	}
	Of(schema(), [][]api.Val{nil, {num(1)}})
}

func TestMay(t *testing.T) {
	// 3 rows: id 2 to 8; n 5, null, 5; b all null.
	z := []api.Zone{{Min: num(2), Max: num(8)}, {Nulls: 1, Min: num(5), Max: num(5)}, {Nulls: 3, Min: none(2), Max: none(2)}}
	eq := func(n int64) api.Pred { return compare(0, api.CEq, num(n)) }
	tooMany := pred.All(slices.Repeat([]api.Pred{pred.Any(eq(90), eq(91))}, 6)...)
	for i, x := range []struct {
		p    api.Pred
		want bool
	}{
		{yes(), true},
		{pred.Not(yes()), false},
		{pred.Any(), false},
		{pred.All(), true},
		{eq(1), false}, {eq(2), true}, {eq(5), true}, {eq(8), true}, {eq(9), false},
		{compare(0, api.CNe, num(2)), true}, {compare(0, api.CNe, num(8)), true}, {compare(0, api.CNe, num(9)), true},
		{compare(1, api.CNe, num(5)), false}, {compare(1, api.CNe, num(4)), true},
		{compare(0, api.CLt, num(2)), false}, {compare(0, api.CLt, num(3)), true}, {compare(0, api.CLt, num(99)), true},
		{compare(0, api.CLe, num(1)), false}, {compare(0, api.CLe, num(2)), true},
		{compare(0, api.CGt, num(8)), false}, {compare(0, api.CGt, num(7)), true},
		{compare(0, api.CGe, num(9)), false}, {compare(0, api.CGe, num(8)), true},
		{isNull(0), false}, {isNull(1), true}, {isNull(2), true},
		{pred.Not(isNull(0)), true}, {pred.Not(isNull(1)), true}, {pred.Not(isNull(2)), false},
		{compare(2, api.CNe, text("x")), false}, {compare(2, api.CGe, text("")), false}, {compare(2, api.CLe, text("z")), false},
		{pred.All(eq(5), isNull(0)), false},
		{pred.All(eq(5), isNull(1)), true},
		{pred.Any(eq(1), eq(9), eq(5)), true},
		{pred.Any(eq(1), eq(9)), false},
		{pred.Not(pred.Any(compare(0, api.CGe, num(2)), isNull(1))), false},
		{tooMany, true},
	} {
		if got := May(x.p, z, 3); got != x.want {
			t.Error(i, got)
		}
	}
	if May(yes(), z, 0) || May(tooMany, z, 0) || May(yes(), z, -5) {
		t.Error("of no rows")
	}
	if !May(pred.Not(isNull(2)), z, 4) || !May(yes(), nil, 1) {
		t.Error("one more row")
	}
	if May(compare(0, api.CEq, num(5)), []api.Zone{{Nulls: 3, Min: num(2), Max: num(8)}}, 3) {
		t.Error("all are null")
	}
	May(compare(3, 1, num(1)), z, 3)
	May(compare(99, 1, num(1)), z, 3)
	May(compare(-1, 1, num(1)), z, 3)
	May(api.Pred{}, nil, 3)
}

// TestWhatIsLeftOutHasNothing: W2.
func TestWhatIsLeftOutHasNothing(t *testing.T) {
	rnd := rand.New(rand.NewSource(9))
	val := func(null bool, kind int) api.Val {
		switch {
		case null && rnd.Intn(3) == 0:
			return none(kind)
		case kind == api.KInt:
			return num(int64(rnd.Intn(6)))
		}
		return text(string(rune('a' + rnd.Intn(4))))
	}
	left := 0
	for range 20000 {
		var rows [][]api.Val
		for range 1 + rnd.Intn(3) {
			rows = append(rows, []api.Val{val(false, 1), val(true, 1), val(true, 2)})
		}
		p := yes()
		for range rnd.Intn(4) {
			q := isNull(rnd.Intn(3))
			if rnd.Intn(4) > 0 {
				col := rnd.Intn(3)
				q = compare(col, 1+rnd.Intn(6), val(false, schema().Cols[col].Kind))
			}
			switch rnd.Intn(4) {
			case 0:
				p = pred.Any(p, q)
			case 1:
				p = pred.Not(pred.All(p, q))
			default:
				p = pred.All(p, q)
			}
		}
		if May(p, Of(schema(), rows), len(rows)) {
			continue
		}
		left++
		for _, row := range rows {
			if pred.Eval(p, row) == api.VTrue {
				t.Fatal(p, row)
			}
		}
	}
	if left < 1000 {
		t.Error(left)
	}
}

func TestMemoryIsNew(t *testing.T) {
	rows := [][]api.Val{{num(1), num(1), text("ab")}}
	z := Of(schema(), rows)
	z[2].Min.Bytes[0] = 'z'
	if string(rows[0][2].Bytes) != "ab" || string(z[2].Max.Bytes) != "ab" {
		t.Error("shared")
	}
	z[2].Max.Bytes[0] = 'y'
	if string(rows[0][2].Bytes) != "ab" || string(z[2].Min.Bytes) != "zb" {
		t.Error("shared")
	}
}
