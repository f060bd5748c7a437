package fresh

import (
	"reflect"
	"testing"

	"colonnade/api"
)

func bytesVal(s string) api.Val { return api.Val{Kind: api.KBytes, Bytes: []byte(s)} }

func someOp() api.Op {
	leaf := api.Pred{Kind: api.PCmp, Col: 1, Op: api.CEq, Val: bytesVal("ab")}
	return api.Op{
		Kind: api.OUpdate,
		Row:  []api.Val{bytesVal("cd")},
		Pred: api.Pred{Kind: api.PAnd, List: []api.Pred{leaf, {Kind: api.PNot, List: []api.Pred{leaf}}}},
		Sets: []api.Set{{Col: 1, Val: bytesVal("ef")}},
		Cols: []int{1, 2},
		Aggs: []api.Agg{{Kind: api.ACount}},
	}
}

func TestOpIsWhole(t *testing.T) {
	o := someOp()
	c := Op(o)
	if !reflect.DeepEqual(o, c) {
		t.Fatal(c)
	}
	c.Row[0].Bytes[0] = 'z'
	c.Pred.List[0].Val.Bytes[0] = 'z'
	c.Pred.List[1].List[0].Kind = 9
	c.Sets[0].Val.Bytes[0] = 'z'
	c.Cols[0] = 9
	c.Aggs[0].Kind = 9
	if !reflect.DeepEqual(o, someOp()) {
		t.Error("shared", o)
	}
}

func TestSchemaAndVersionAreWhole(t *testing.T) {
	s := api.Schema{Cols: []api.Col{{Name: "id", Kind: api.KInt}}}
	c := Schema(s)
	c.Cols[0].Name = "z"
	v := api.Version{ID: 1, Row: []api.Val{bytesVal("ab")}}
	w := Version(v)
	w.Row[0].Bytes[0] = 'z'
	w.Row[0].Kind = 9
	if s.Cols[0].Name != "id" || string(v.Row[0].Bytes) != "ab" || v.Row[0].Kind != api.KBytes || w.ID != 1 {
		t.Error("shared", s, v)
	}
}

func TestEventsAreWhole(t *testing.T) {
	l := []api.Event{{Kind: api.LRes, Client: 2, N: 1, Res: api.Res{N: 3, Rows: [][]api.Val{{bytesVal("ab")}}}, At: 4, Err: 5}}
	c := Events(l)
	if !reflect.DeepEqual(l, c) {
		t.Fatal(c)
	}
	c[0].Res.Rows[0][0].Bytes[0] = 'z'
	if string(l[0].Res.Rows[0][0].Bytes) != "ab" {
		t.Error("shared")
	}
}

func TestPredThatHoldsItself(t *testing.T) {
	l := make([]api.Pred, 50)
	for i := range l {
		l[i] = api.Pred{Kind: api.POr, List: l}
	}
	if c := Pred(l[0]); c.Kind != api.POr || len(c.List) != 50 {
		t.Error(c.Kind, len(c.List))
	}
}

func TestSpareRoomIsNew(t *testing.T) {
	rows := [][]api.Val{{bytesVal("a")}, {bytesVal("b")}}
	c := Rows(rows)
	_ = append(c[0], bytesVal("z"))
	_ = append(c[0][0].Bytes, 'z')
	if string(c[1][0].Bytes) != "b" || string(rows[1][0].Bytes) != "b" {
		t.Error(c, rows)
	}
}
