package rond

import (
	"math"
	"math/rand"
	"slices"
	"testing"

	"colonnade/api"
	"colonnade/engn"
	"colonnade/modl"
	"colonnade/schm"
)

func num(n int64) api.Val { return api.Val{Kind: api.KInt, Int: n} }

func schema() api.Schema {
	return api.Schema{Cols: []api.Col{{Name: "id", Kind: api.KInt}, {Name: "n", Kind: api.KInt, Null: true}}}
}

func yes() api.Pred { return api.Pred{Kind: api.PTrue} }
func key(op int, n int64) api.Pred {
	return api.Pred{Kind: api.PCmp, Op: op, Val: num(n)}
}

func insert(key, n int64) api.Op { return api.Op{Kind: api.OInsert, Row: []api.Val{num(key), num(n)}} }
func add(p api.Pred, n int64) api.Op {
	return api.Op{Kind: api.OUpdate, Pred: p, Sets: []api.Set{{Col: 1, Add: true, Val: num(n)}}}
}
func remove(p api.Pred) api.Op { return api.Op{Kind: api.ODelete, Pred: p} }
func scan(p api.Pred) api.Op   { return api.Op{Kind: api.OScan, Pred: p, Cols: []int{0, 1}} }

func engine(t *testing.T, delta, groups int) *engn.Engine {
	t.Helper()
	e, ok := engn.New(schema(), engn.Limits{Delta: delta, Groups: groups})
	if !ok {
		t.Fatal("not made")
	}
	return e
}

func clientsOf(l []api.Event, kind int) []int {
	var clients []int
	for _, e := range l {
		if e.Kind == kind {
			clients = append(clients, e.Client)
		}
	}
	return clients
}

func TestRound(t *testing.T) {
	e := engine(t, 99, 9)
	if Round(e) {
		t.Error("nobody is busy")
	}
	for _, client := range []int{7, 0, 4} {
		e.Begin(client, insert(int64(client), 0))
	}
	if !Round(e) || !slices.Equal(clientsOf(e.Log(), api.LRes), []int{0, 4, 7}) {
		t.Error(e.Log())
	}
	if !Round(e) || !Round(e) || !Round(e) || Round(e) || !slices.Equal(clientsOf(e.Log(), api.LCommit), []int{0, 4, 7}) {
		t.Error(e.Log())
	}
}

// TestRoundOfWaiting: a round in which all wait does nothing.
func TestRoundOfWaiting(t *testing.T) {
	e := engine(t, 99, 9)
	other := e.Book().Begin()
	e.Table().Add([]api.Val{num(1), num(1)}, api.Span{Begin: api.Stamp{Txn: other}})
	e.Book().Prepare(other)
	e.Begin(3, scan(yes()))
	e.Begin(5, scan(yes()))
	for range 3 {
		if !Round(e) {
			t.Error("waits too soon")
		}
	}
	if Round(e) || Run(e, 50) != 50 || !e.Busy(3) || !e.Busy(5) {
		t.Error("does not wait")
	}
	e.Book().Commit(other)
	if Run(e, 50) != 1 {
		t.Error("still waits")
	}
}

func TestRun(t *testing.T) {
	e := engine(t, 99, 9)
	if Run(e, 50) != 0 {
		t.Error("nobody is busy")
	}
	e.Begin(1, insert(1, 1))
	if Run(e, 0) != 0 || Run(e, -1) != 0 || Run(e, 1) != 1 || Run(e, 2) != 2 || !e.Busy(1) || Run(e, 1<<40) != 1 || e.Busy(1) {
		t.Error(e.Log())
	}
	other := e.Book().Begin()
	e.Table().Add([]api.Val{num(2), num(1)}, api.Span{Begin: api.Stamp{Txn: other}})
	e.Book().Prepare(other)
	e.Begin(1, scan(yes()))
	if n := Run(e, 1<<40); n != 100000 {
		t.Error(n)
	}
}

func TestBound(t *testing.T) {
	for ops, want := range map[int]int{-1: 20, 0: 20, 1: 22, 16: 52, 10000: 20020, 10001: 20020, math.MaxInt: 20020, math.MinInt: 20} {
		if got := Bound(ops); got != want {
			t.Error(ops, got)
		}
	}
}

func TestSettle(t *testing.T) {
	e := engine(t, 1000, 9)
	if Settle(e, 10) != 0 {
		t.Error("nothing to collect")
	}
	for i := range int64(13) {
		var ops []api.Op
		for j := range int64(10) {
			ops = append(ops, insert(10*i+j, 0))
		}
		e.Begin(0, ops...)
		Run(e, 100)
	}
	e.Begin(0, remove(yes()))
	Run(e, 100)
	if n := Settle(e, 0); n != 0 || len(e.Table().IDs()) != 130 {
		t.Error(n)
	}
	if n := Settle(e, -5); n != 0 {
		t.Error(n)
	}
	if n := Settle(e, 1); n != 1 || len(e.Table().IDs()) != 130-64 {
		t.Error(n)
	}
	if n := Settle(e, 1<<40); n != 2 || len(e.Table().IDs()) != 0 {
		t.Error(n)
	}
}

func someOp(rnd *rand.Rand, keys int) api.Op {
	p := key(1+rnd.Intn(6), int64(rnd.Intn(keys)))
	switch rnd.Intn(8) {
	case 0, 1, 2:
		return insert(int64(rnd.Intn(keys)), int64(rnd.Intn(3)))
	case 3, 4:
		return add(p, int64(rnd.Intn(5)))
	case 5:
		return remove(p)
	}
	return scan(p)
}

// TestAllComeToTheirEnd: W3, in rounds, and collecting.
func TestAllComeToTheirEnd(t *testing.T) {
	for seed := range int64(300) {
		rnd := rand.New(rand.NewSource(seed))
		e := engine(t, 1000, 9)
		for range 4 {
			ops := 0
			for client := range 8 {
				if rnd.Intn(4) == 0 {
					continue
				}
				var prog []api.Op
				for range rnd.Intn(7) {
					prog = append(prog, someOp(rnd, 8))
				}
				e.Begin(client, prog...)
				ops += len(prog)
				for range rnd.Intn(4) {
					e.Step(client)
				}
			}
			if n := Run(e, 100000); n > Bound(ops) {
				t.Fatal(seed, n, ops)
			}
			for range rnd.Intn(4) {
				e.Care(1+rnd.Intn(3), rnd.Intn(30))
			}
		}
		Settle(e, 10000)
		rows := e.Rows()
		ids := e.Table().IDs()
		if len(ids) != len(rows) {
			t.Fatal(seed, len(ids), len(rows))
		}
		for _, id := range ids {
			if v, _ := e.Table().Get(id); v.Span.Begin.Txn != 0 || v.Span.End != (api.Stamp{}) {
				t.Fatal(seed, v)
			}
		}
	}
}

// TestAlone: W3: one alone is aborted only for what the plain model refuses, or for want of room.
func TestAlone(t *testing.T) {
	ends := map[api.Errno]int{}
	for seed := range int64(200) {
		rnd := rand.New(rand.NewSource(seed))
		e := engine(t, 2+rnd.Intn(12), 100)
		var rows [][]api.Val
		for range 12 {
			var prog []api.Op
			for range rnd.Intn(5) {
				prog = append(prog, someOp(rnd, 6))
			}
			if rnd.Intn(9) == 0 {
				prog = append(prog, add(yes(), math.MaxInt64), api.Op{Kind: api.ORoll})
			}
			e.Begin(0, prog...)
			if n := Run(e, 1000); n > 2*len(prog)+2 {
				t.Fatal(seed, n)
			}
			next, told := modl.Run(schema(), rows, prog...)
			want := api.OK
			if len(told) > 0 {
				want = told[len(told)-1].Err
			}
			l := e.Log()
			err := l[len(l)-1].Err
			ends[err]++
			if err == api.ErrFull {
				next = rows
			} else if err != want {
				t.Fatal(seed, err, want)
			}
			rows = next
			if !schm.Same(rows, e.Rows()) {
				t.Fatal(seed, rows, e.Rows())
			}
			if rnd.Intn(2) == 0 {
				e.Care(1+rnd.Intn(3), 64)
			}
		}
	}
	for _, err := range []api.Errno{api.OK, api.ErrDup, api.ErrOver, api.ErrRoll, api.ErrFull} {
		if ends[err] == 0 {
			t.Error("never came:", err, ends)
		}
	}
}
