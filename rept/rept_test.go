package rept

import (
	"testing"

	"colonnade/api"
	"colonnade/engn"
)

func num(n int64) api.Val   { return api.Val{Kind: api.KInt, Int: n} }
func raw(s string) api.Val  { return api.Val{Kind: api.KBytes, Bytes: []byte(s)} }
func none(kind int) api.Val { return api.Val{Kind: kind, Null: true} }

func TestRes(t *testing.T) {
	for i, x := range []struct {
		r    api.Res
		want string
	}{
		{api.Res{}, "n 0"},
		{api.Res{N: 12}, "n 12"},
		{api.Res{Err: api.ErrDup}, "error 1"},
		{api.Res{Err: api.ErrDeps, N: 3, Rows: [][]api.Val{{num(1)}}}, "error 8"},
		{api.Res{Rows: [][]api.Val{{num(-1)}}}, "n 0 [-1]"},
		{api.Res{N: 2, Rows: [][]api.Val{{num(1), raw("a"), none(api.KInt)}, {num(2), raw(""), none(0)}}}, "n 2 [1,x61,null] [2,x,null]"},
		{api.Res{Rows: [][]api.Val{nil, {}}}, "n 0 [] []"},
	} {
		if got := Res(x.r); got != x.want {
			t.Error(i, got)
		}
	}
}

func TestEvent(t *testing.T) {
	for i, x := range []struct {
		e    api.Event
		want string
	}{
		{api.Event{}, ""},
		{api.Event{Kind: 5, Client: 1}, ""},
		{api.Event{Kind: -1}, ""},
		{api.Event{Kind: api.LBegin, Client: 3}, "3 begin"},
		{api.Event{Kind: api.LRes, Client: 7, N: 2, Res: api.Res{N: 1}}, "7 op 2 n 1"},
		{api.Event{Kind: api.LRes, Res: api.Res{Rows: [][]api.Val{{num(1)}}}}, "0 op 0 n 0 [1]"},
		{api.Event{Kind: api.LRes, Client: 1, N: 1, Res: api.Res{Err: api.ErrValid}}, "1 op 1 error 6"},
		{api.Event{Kind: api.LCommit, Client: 2, At: 15}, "2 commit 15"},
		{api.Event{Kind: api.LAbort, Client: 2, Err: api.ErrConflict}, "2 abort 5"},
	} {
		if got := Event(x.e); got != x.want {
			t.Error(i, got)
		}
	}
}

func TestState(t *testing.T) {
	s := api.Schema{Cols: []api.Col{{Name: "id", Kind: api.KInt}, {Name: "b", Kind: api.KBytes, Null: true}}}
	e, _ := engn.New(s, engn.Limits{Delta: 9, Groups: 9})
	if got := State(e); got != "now 1 delta 0 groups 0 versions 0\n" {
		t.Error(got)
	}
	do := func(client int, ops ...api.Op) {
		e.Begin(client, ops...)
		for e.Step(client) {
		}
	}
	insert := func(key int64, v api.Val) api.Op { return api.Op{Kind: api.OInsert, Row: []api.Val{num(key), v}} }
	do(0, insert(7, raw("ab")), insert(-2, none(api.KBytes)), insert(5, raw("")))
	e.Care(1, 2)
	e.Begin(1, insert(100, raw("z")))
	e.Step(1)
	do(0, api.Op{Kind: api.ODelete, Pred: api.Pred{Kind: api.PCmp, Op: api.CEq, Val: num(5)}})
	if got := State(e); got != "now 3 delta 2 groups 1 versions 4\n[-2,null]\n[7,x6162]\n" {
		t.Error(got)
	}
}
