package modl

import (
	"math"
	"reflect"
	"testing"

	"colonnade/api"
	"colonnade/pred"
	"colonnade/schm"
)

func num(n int64) api.Val   { return api.Val{Kind: api.KInt, Int: n} }
func text(s string) api.Val { return api.Val{Kind: api.KBytes, Bytes: []byte(s)} }
func none(kind int) api.Val { return api.Val{Kind: kind, Null: true} }

func schema() api.Schema {
	return api.Schema{Cols: []api.Col{{Name: "id", Kind: api.KInt}, {Name: "n", Kind: api.KInt, Null: true}, {Name: "b", Kind: api.KBytes, Null: true}}}
}

func rows() [][]api.Val {
	return [][]api.Val{{num(1), num(10), text("x")}, {num(3), none(api.KInt), text("y")}, {num(5), num(math.MaxInt64), none(api.KBytes)}}
}

func yes() api.Pred { return api.Pred{Kind: api.PTrue} }
func compare(col, op int, n int64) api.Pred {
	return api.Pred{Kind: api.PCmp, Col: col, Op: op, Val: num(n)}
}
func insert1(key int64) api.Op {
	return api.Op{Kind: api.OInsert, Row: []api.Val{num(key), num(0), text("w")}}
}
func add(p api.Pred, n int64) api.Op {
	return api.Op{Kind: api.OUpdate, Pred: p, Sets: []api.Set{{Col: 1, Add: true, Val: num(n)}}}
}
func scan(p api.Pred, cols ...int) api.Op { return api.Op{Kind: api.OScan, Pred: p, Cols: cols} }
func sum(p api.Pred) api.Op {
	return api.Op{Kind: api.OAgg, Pred: p, Group: -1, Aggs: []api.Agg{{Kind: api.ASum, Col: 1}}}
}

func sameRes(a, b api.Res) bool { return a.Err == b.Err && a.N == b.N && schm.Same(a.Rows, b.Rows) }

func TestDo(t *testing.T) {
	l := rows()
	fresh := []api.Val{num(4), num(0), text("w")}
	first := []api.Val{num(-4), num(0), text("w")}
	last := []api.Val{num(9), num(0), text("w")}
	small := compare(0, api.CLe, 3)
	for i, x := range []struct {
		rows [][]api.Val
		o    api.Op
		want [][]api.Val
		res  api.Res
	}{
		{nil, scan(yes(), 0), nil, api.Res{}},
		{l, insert1(4), [][]api.Val{l[0], l[1], fresh, l[2]}, api.Res{N: 1}},
		{l, insert1(-4), [][]api.Val{first, l[0], l[1], l[2]}, api.Res{N: 1}},
		{l, insert1(9), [][]api.Val{l[0], l[1], l[2], last}, api.Res{N: 1}},
		{nil, insert1(9), [][]api.Val{last}, api.Res{N: 1}},
		{l, insert1(3), l, api.Res{Err: api.ErrDup}},
		{l, add(small, 5), [][]api.Val{{num(1), num(15), text("x")}, l[1], l[2]}, api.Res{N: 2}},
		{l, add(yes(), 5), l, api.Res{Err: api.ErrOver}},
		{l, add(compare(0, api.CGt, 99), 5), l, api.Res{}},
		{l, add(compare(1, api.CGt, 9), -5), [][]api.Val{{num(1), num(5), text("x")}, l[1], {num(5), num(math.MaxInt64 - 5), none(api.KBytes)}}, api.Res{N: 2}},
		{l, api.Op{Kind: api.OUpdate, Pred: small, Sets: []api.Set{{Col: 1, Val: num(7)}, {Col: 2, Val: none(api.KBytes)}}}, [][]api.Val{{num(1), num(7), none(api.KBytes)}, {num(3), num(7), none(api.KBytes)}, l[2]}, api.Res{N: 2}},
		{l, api.Op{Kind: api.ODelete, Pred: small}, l[2:], api.Res{N: 2}},
		{l, api.Op{Kind: api.ODelete, Pred: pred.Not(yes())}, l, api.Res{}},
		{l, api.Op{Kind: api.ODelete, Pred: yes()}, nil, api.Res{N: 3}},
		{l, scan(yes(), 1, 0), l, api.Res{Rows: [][]api.Val{{none(api.KInt), num(3)}, {num(10), num(1)}, {num(math.MaxInt64), num(5)}}}},
		{l, scan(compare(1, api.CNe, 10), 0), l, api.Res{Rows: [][]api.Val{{num(5)}}}},
		{l, sum(small), l, api.Res{Rows: [][]api.Val{{num(10)}}}},
		{l, sum(yes()), l, api.Res{Err: api.ErrOver}},
		{nil, sum(yes()), nil, api.Res{Rows: [][]api.Val{{num(0)}}}},
		{l, api.Op{Kind: api.ORoll}, l, api.Res{Err: api.ErrRoll}},
		{l, api.Op{}, l, api.Res{}},
	} {
		got, res := Do(schema(), x.rows, x.o)
		if !schm.Same(got, x.want) || !sameRes(res, x.res) {
			t.Error(i, got, res)
		}
	}
	if !reflect.DeepEqual(l, rows()) {
		t.Error("changed", l)
	}
}

func TestRun(t *testing.T) {
	l := rows()
	for i, x := range []struct {
		ops  []api.Op
		want [][]api.Val
		told []api.Res
	}{
		{nil, l, nil},
		{
			[]api.Op{insert1(2), add(compare(0, api.CLe, 2), 1), scan(compare(0, api.CLe, 2), 0, 1)},
			[][]api.Val{{num(1), num(11), text("x")}, {num(2), num(1), text("w")}, l[1], l[2]},
			[]api.Res{{N: 1}, {N: 2}, {Rows: [][]api.Val{{num(1), num(11)}, {num(2), num(1)}}}},
		},
		{[]api.Op{insert1(2), insert1(2), scan(yes(), 0)}, l, []api.Res{{N: 1}, {Err: api.ErrDup}}},
		{[]api.Op{{Kind: api.ODelete, Pred: yes()}, insert1(3), {Kind: api.ORoll}}, l, []api.Res{{N: 3}, {N: 1}, {Err: api.ErrRoll}}},
		{[]api.Op{{Kind: api.ODelete, Pred: yes()}, insert1(3)}, [][]api.Val{{num(3), num(0), text("w")}}, []api.Res{{N: 3}, {N: 1}}},
	} {
		got, told := Run(schema(), l, x.ops...)
		if !schm.Same(got, x.want) || len(told) != len(x.told) {
			t.Error(i, got, told)
			continue
		}
		for j, res := range told {
			if !sameRes(res, x.told[j]) {
				t.Error(i, j, res)
			}
		}
	}
}

func TestWhatIsNotOkEnds(t *testing.T) {
	for kind := -1; kind < 9; kind++ {
		o := api.Op{Kind: kind, Pred: yes(), Group: -9, Cols: []int{-1}, Aggs: []api.Agg{{Kind: 2, Col: 99}}, Sets: []api.Set{{Col: 99}}}
		Do(schema(), [][]api.Val{nil, {num(1)}}, o)
		Run(api.Schema{}, [][]api.Val{nil, {num(1)}}, o, insert1(1))
	}
	Do(schema(), [][]api.Val{nil, {}}, insert1(3))
}

func TestMemoryIsNew(t *testing.T) {
	in := rows()
	o := insert1(2)
	u := api.Op{Kind: api.OUpdate, Pred: compare(0, api.CEq, 2), Sets: []api.Set{{Col: 2, Val: text("uu")}}}
	for _, ops := range [][]api.Op{{o}, {o, u}, {{Kind: api.ORoll}}, {scan(yes(), 2)}, nil} {
		out, told := Run(schema(), in, ops...)
		for _, res := range told {
			out = append(out, res.Rows...)
		}
		for _, row := range out {
			for _, v := range row {
				for i := range v.Bytes {
					v.Bytes[i]++
				}
			}
		}
	}
	if !reflect.DeepEqual(in, rows()) || !reflect.DeepEqual(o, insert1(2)) || string(u.Sets[0].Val.Bytes) != "uu" {
		t.Error("shared", in, o)
	}
}
