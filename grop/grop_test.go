package grop

import (
	"bytes"
	"reflect"
	"slices"
	"testing"

	"colonnade/api"
	"colonnade/segm"
)

func num(n int64) api.Val   { return api.Val{Kind: api.KInt, Int: n} }
func text(s string) api.Val { return api.Val{Kind: api.KBytes, Bytes: []byte(s)} }

func schema() api.Schema {
	return api.Schema{Cols: []api.Col{{Name: "id", Kind: api.KInt}, {Name: "b", Kind: api.KBytes, Null: true}}}
}

func version(id int) api.Version {
	return api.Version{ID: id, Row: []api.Val{num(int64(10 - id)), text("ab")}, Span: api.Span{Begin: api.Stamp{At: id}}}
}

func versions(ids ...int) []api.Version {
	var l []api.Version
	for _, id := range ids {
		l = append(l, version(id))
	}
	return l
}

func TestMake(t *testing.T) {
	l := versions(2, 3, 7)
	g, ok := Make(schema(), l...)
	if !ok || !slices.Equal(g.IDs(), []int{2, 3, 7}) {
		t.Fatal(ok)
	}
	for i, want := range l {
		if v, ok := g.Version(i); !ok || !reflect.DeepEqual(v, want) {
			t.Error(i, v)
		}
		if g.Find(want.ID) != i {
			t.Error(want.ID, g.Find(want.ID))
		}
	}
	for _, id := range []int{-1, 0, 1, 4, 8, 1 << 62} {
		if g.Find(id) != -1 {
			t.Error(id, g.Find(id))
		}
	}
	for _, i := range []int{-1, 3, 1 << 62} {
		if v, ok := g.Version(i); ok || !reflect.DeepEqual(v, api.Version{}) {
			t.Error(i, v)
		}
	}
}

func TestMakeRefuses(t *testing.T) {
	wrong := version(9)
	wrong.Row = wrong.Row[:1]
	many := make([]int, 65)
	for i := range many {
		many[i] = i
	}
	for i, x := range []struct {
		s api.Schema
		l []api.Version
	}{
		{schema(), nil},
		{schema(), versions(1, 1)},
		{schema(), versions(1, 3, 2)},
		{schema(), append(versions(1, 2), wrong)},
		{schema(), versions(many...)},
		{api.Schema{}, versions(1)},
	} {
		if g, ok := Make(x.s, x.l...); ok || g != nil {
			t.Error(i)
		}
	}
	if _, ok := Make(schema(), versions(many[:64]...)...); !ok {
		t.Error("64")
	}
}

func TestSetAndLive(t *testing.T) {
	g, _ := Make(schema(), versions(1, 2, 3)...)
	if g.Live() != 3 {
		t.Error(g.Live())
	}
	s := api.Span{Begin: api.Stamp{Txn: 4}, End: api.Stamp{At: 5}}
	if !g.Set(1, s) || g.Live() != 2 {
		t.Error(g.Live())
	}
	want := version(2)
	want.Span = s
	if v, _ := g.Version(1); !reflect.DeepEqual(v, want) {
		t.Error(v)
	}
	if !g.Set(0, api.Span{End: api.Stamp{Txn: 4}}) || g.Live() != 1 {
		t.Error(g.Live())
	}
	if g.Set(-1, s) || g.Set(3, s) || g.Live() != 1 {
		t.Error("of none")
	}
	if !g.Set(1, api.Span{}) || g.Live() != 2 {
		t.Error(g.Live())
	}
}

func TestPromoted(t *testing.T) {
	l := versions(1, 2, 3)
	g, _ := Make(schema(), l...)
	want, _ := segm.Make(schema(), [][]api.Val{l[0].Row, l[1].Row, l[2].Row})
	if g.Count != 3 || !reflect.DeepEqual(g.Zones, want.Zones) || !bytes.Equal(g.Bytes(), want.Bytes()) {
		t.Error(g.Count, g.Zones)
	}
	p := api.Pred{Kind: api.PCmp, Op: api.CLe, Val: num(8)}
	if !g.May(p) || !slices.Equal(g.Pick(p), []int{1, 2}) {
		t.Error(g.Pick(p))
	}
	row, ok := g.Row(1)
	v, ok2 := g.Value(0, 1)
	if !ok || !ok2 || !reflect.DeepEqual(row, l[1].Row) || !reflect.DeepEqual(v, l[1].Row[0]) {
		t.Error(row, v)
	}
}

func TestMemoryIsNew(t *testing.T) {
	l := versions(1, 2)
	g, _ := Make(schema(), l...)
	l[0].Row[1].Bytes[0] = 'z'
	l[1].ID = 9
	g.IDs()[0] = 9
	v, _ := g.Version(0)
	v.Row[1].Bytes[0] = 'z'
	if v, _ := g.Version(0); !reflect.DeepEqual(v, version(1)) || g.Find(2) != 1 {
		t.Error("shared", v)
	}
}
