package delt

import (
	"reflect"
	"slices"
	"testing"

	"colonnade/api"
)

func num(n int64) api.Val   { return api.Val{Kind: api.KInt, Int: n} }
func text(s string) api.Val { return api.Val{Kind: api.KBytes, Bytes: []byte(s)} }

func version(id int) api.Version {
	return api.Version{ID: id, Row: []api.Val{num(int64(id)), text("ab")}, Span: api.Span{Begin: api.Stamp{At: id}}}
}

func TestStore(t *testing.T) {
	d := New(4)
	if ids := d.IDs(); len(ids) != 0 {
		t.Error(ids)
	}
	for _, id := range []int{5, 1, 9, 3} {
		if !d.Add(version(id)) {
			t.Error(id)
		}
	}
	if d.Add(version(7)) {
		t.Error("too many")
	}
	if ids := d.IDs(); !slices.Equal(ids, []int{1, 3, 5, 9}) {
		t.Error(ids)
	}
	for _, id := range []int{1, 3, 5, 9} {
		if v, ok := d.Get(id); !ok || !reflect.DeepEqual(v, version(id)) {
			t.Error(id, v)
		}
	}
	if !d.Drop(5) || d.Drop(5) {
		t.Error("Drop")
	}
	if ids := d.IDs(); !slices.Equal(ids, []int{1, 3, 9}) {
		t.Error(ids)
	}
	if d.Add(version(3)) {
		t.Error("there already")
	}
	if v, _ := d.Get(3); !reflect.DeepEqual(v, version(3)) {
		t.Error(v)
	}
	if !d.Add(version(-2)) || !slices.Equal(d.IDs(), []int{-2, 1, 3, 9}) {
		t.Error(d.IDs())
	}
}

func TestSetAndPut(t *testing.T) {
	d := New(4)
	d.Add(version(1))
	d.Add(version(2))
	s := api.Span{Begin: api.Stamp{Txn: 3}, End: api.Stamp{At: 9}}
	row := []api.Val{num(7)}
	if !d.Set(1, s) || !d.Put(2, row) {
		t.Error("false")
	}
	want := version(1)
	want.Span = s
	if v, _ := d.Get(1); !reflect.DeepEqual(v, want) {
		t.Error(v)
	}
	want = version(2)
	want.Row = row
	if v, _ := d.Get(2); !reflect.DeepEqual(v, want) {
		t.Error(v)
	}
	if d.Set(3, s) || d.Put(3, row) || d.Drop(3) {
		t.Error("of none")
	}
	if v, ok := d.Get(3); ok || !reflect.DeepEqual(v, api.Version{}) {
		t.Error(v)
	}
}

func TestMost(t *testing.T) {
	for most, want := range map[int]int{-5: 1, 0: 1, 1: 1, 2: 2, 1000: 1000, 1001: 1000, 1 << 40: 1000} {
		d := New(most)
		n := 0
		for d.Add(version(n)) {
			n++
		}
		if n != want {
			t.Error(most, n)
		}
	}
}

func TestMemoryIsNew(t *testing.T) {
	d := New(9)
	v := version(1)
	d.Add(v)
	v.Row[1].Bytes[0] = 'z'
	got, _ := d.Get(1)
	if string(got.Row[1].Bytes) != "ab" {
		t.Error("kept")
	}
	got.Row[1].Bytes[0] = 'z'
	got.Row[0] = num(99)
	d.IDs()[0] = 99
	if got, _ := d.Get(1); !reflect.DeepEqual(got, version(1)) {
		t.Error("shared", got)
	}
	row := []api.Val{text("cd")}
	d.Put(1, row)
	row[0].Bytes[0] = 'z'
	if got, _ := d.Get(1); string(got.Row[0].Bytes) != "cd" {
		t.Error("kept", got)
	}
}
