package hist

import (
	"math/rand"
	"reflect"
	"slices"
	"testing"

	"colonnade/api"
	"colonnade/engn"
	"colonnade/schm"
)

func num(n int64) api.Val { return api.Val{Kind: api.KInt, Int: n} }

func schema() api.Schema {
	return api.Schema{Cols: []api.Col{{Name: "id", Kind: api.KInt}, {Name: "n", Kind: api.KInt, Null: true}}}
}

func yes() api.Pred { return api.Pred{Kind: api.PTrue} }
func key(op int, n int64) api.Pred {
	return api.Pred{Kind: api.PCmp, Op: op, Val: num(n)}
}

func insert(key, n int64) api.Op { return api.Op{Kind: api.OInsert, Row: []api.Val{num(key), num(n)}} }
func add(p api.Pred, n int64) api.Op {
	return api.Op{Kind: api.OUpdate, Pred: p, Sets: []api.Set{{Col: 1, Add: true, Val: num(n)}}}
}
func remove(p api.Pred) api.Op { return api.Op{Kind: api.ODelete, Pred: p} }
func scan(p api.Pred) api.Op   { return api.Op{Kind: api.OScan, Pred: p, Cols: []int{0, 1}} }
func sum() api.Op {
	return api.Op{Kind: api.OAgg, Pred: yes(), Group: -1, Aggs: []api.Agg{{Kind: api.ASum, Col: 1}, {Kind: api.ACount}}}
}

func begin(client int) api.Event      { return api.Event{Kind: api.LBegin, Client: client} }
func commit(client, at int) api.Event { return api.Event{Kind: api.LCommit, Client: client, At: at} }
func abort(client int) api.Event {
	return api.Event{Kind: api.LAbort, Client: client, Err: api.ErrRoll}
}
func res(client, n int, r api.Res) api.Event {
	return api.Event{Kind: api.LRes, Client: client, N: n, Res: r}
}

func txn(id, begin, end int) api.Txn {
	return api.Txn{ID: id, State: api.XCommitted, Begin: begin, End: end}
}

func TestOrder(t *testing.T) {
	for i, x := range []struct {
		l    []api.Event
		want []api.Txn
	}{
		{nil, nil},
		{[]api.Event{begin(0)}, nil},
		{[]api.Event{begin(0), abort(0), commit(0, 2)}, nil},
		{[]api.Event{begin(0), commit(0, 2)}, []api.Txn{txn(1, 0, 1)}},
		{[]api.Event{commit(0, 2), begin(0), commit(1, 3)}, nil},
		{[]api.Event{begin(0), begin(1), commit(1, 3), commit(0, 2)}, []api.Txn{txn(1, 0, 3), txn(2, 1, 2)}},
		{[]api.Event{begin(0), begin(1), commit(1, 2), commit(0, 3)}, []api.Txn{txn(2, 1, 2), txn(1, 0, 3)}},
		{[]api.Event{begin(0), abort(0), begin(0), res(0, 0, api.Res{}), begin(3), commit(0, 5), begin(0), abort(3), commit(0, 4)}, []api.Txn{txn(4, 6, 8), txn(2, 2, 5)}},
		{[]api.Event{begin(1), begin(0), commit(0, 2), commit(1, 2)}, []api.Txn{txn(1, 0, 3), txn(2, 1, 2)}},
		{[]api.Event{begin(0), begin(0), commit(0, 2)}, []api.Txn{txn(1, 0, 2), txn(2, 1, 2)}},
		{[]api.Event{begin(-7), commit(-7, -3), begin(1 << 40), commit(1<<40, -4)}, []api.Txn{txn(2, 2, 3), txn(1, 0, 1)}},
	} {
		if got := Order(x.l...); !slices.Equal(got, x.want) {
			t.Error(i, got)
		}
	}
}

func one() api.Res { return api.Res{N: 1} }

// told is a log of two clients, and their programs: the second one's end has the lesser time.
func told() ([]api.Event, [][]api.Op) {
	l := []api.Event{
		begin(0), begin(1), begin(2),
		res(1, 0, one()), res(0, 0, api.Res{Rows: [][]api.Val{{num(5), num(50)}}}),
		res(2, 0, one()), res(1, 1, one()), abort(2), res(0, 1, one()),
		commit(0, 3), commit(1, 2),
	}
	progs := [][]api.Op{{scan(yes()), insert(6, 60)}, {insert(5, 40), add(yes(), 10)}, {insert(7, 70)}}
	return l, progs
}

func TestReplay(t *testing.T) {
	want := [][]api.Val{{num(5), num(50)}, {num(6), num(60)}}
	l, progs := told()
	if rows, ok := Replay(schema(), l, progs...); !ok || !schm.Same(rows, want) || !Check(schema(), l, progs...) {
		t.Error(rows, ok)
	}
	if rows, ok := Replay(schema(), nil); !ok || len(rows) != 0 || !Check(schema(), nil) {
		t.Error(rows, ok)
	}
	// The program of one that was aborted may be missing.
	if _, ok := Replay(schema(), l, progs[:2]...); !ok {
		t.Error("of one that was aborted")
	}
	if rows, ok := Replay(schema(), l, progs[:1]...); ok || !schm.Same(rows, want[1:]) {
		t.Error("one of no program is passed by", rows, ok)
	}
	if rows, ok := Replay(schema(), l); ok || len(rows) != 0 {
		t.Error("no programs", rows, ok)
	}
}

func TestReplayRefuses(t *testing.T) {
	for i, change := range []func(l []api.Event, progs [][]api.Op) ([]api.Event, [][]api.Op){
		func(l []api.Event, progs [][]api.Op) ([]api.Event, [][]api.Op) { l[3].Res.N = 2; return l, progs },
		func(l []api.Event, progs [][]api.Op) ([]api.Event, [][]api.Op) { l[3].N = 1; return l, progs },
		func(l []api.Event, progs [][]api.Op) ([]api.Event, [][]api.Op) { l[4].Res.Rows = nil; return l, progs },
		func(l []api.Event, progs [][]api.Op) ([]api.Event, [][]api.Op) {
			l[4].Res.Rows[0][1].Int = 40
			return l, progs
		},
		func(l []api.Event, progs [][]api.Op) ([]api.Event, [][]api.Op) { l[4].Client = 1; return l, progs },
		func(l []api.Event, progs [][]api.Op) ([]api.Event, [][]api.Op) {
			l[8].Res = api.Res{Err: api.ErrDup}
			return l, progs
		},
		func(l []api.Event, progs [][]api.Op) ([]api.Event, [][]api.Op) { return slices.Delete(l, 3, 4), progs },
		func(l []api.Event, progs [][]api.Op) ([]api.Event, [][]api.Op) { return slices.Delete(l, 8, 9), progs },
		func(l []api.Event, progs [][]api.Op) ([]api.Event, [][]api.Op) {
			return slices.Insert(l, 4, res(1, 1, one())), progs
		},
		func(l []api.Event, progs [][]api.Op) ([]api.Event, [][]api.Op) {
			return slices.Insert(l, 9, res(0, 2, one())), progs
		},
		func(l []api.Event, progs [][]api.Op) ([]api.Event, [][]api.Op) {
			l[9].At, l[10].At = 2, 3
			return l, progs
		},
		func(l []api.Event, progs [][]api.Op) ([]api.Event, [][]api.Op) {
			progs[0] = progs[0][:1]
			return l, progs
		},
		func(l []api.Event, progs [][]api.Op) ([]api.Event, [][]api.Op) {
			progs[0] = append(progs[0], scan(yes()))
			return l, progs
		},
		func(l []api.Event, progs [][]api.Op) ([]api.Event, [][]api.Op) {
			progs[0][1] = insert(5, 60)
			return l, progs
		},
		func(l []api.Event, progs [][]api.Op) ([]api.Event, [][]api.Op) {
			progs[0], progs[1] = progs[1], progs[0]
			return l, progs
		},
		func(l []api.Event, progs [][]api.Op) ([]api.Event, [][]api.Op) { return l, progs[1:] },
	} {
		l, progs := change(told())
		if _, ok := Replay(schema(), l, progs...); ok || Check(schema(), l, progs...) {
			t.Error(i)
		}
	}
}

// TestAnErrorIsNotToldOfOneThatCommits: even where the model refuses just that op.
func TestAnErrorIsNotToldOfOneThatCommits(t *testing.T) {
	l := []api.Event{begin(0), res(0, 0, api.Res{Err: api.ErrRoll}), commit(0, 2)}
	if _, ok := Replay(schema(), l, []api.Op{{Kind: api.ORoll}}); ok {
		t.Error("an error")
	}
}

func TestCheck(t *testing.T) {
	s := schema()
	for i, x := range []struct {
		l     []api.Event
		progs int
		want  bool
	}{
		{[]api.Event{begin(0), begin(1), commit(0, 2), commit(1, 3)}, 2, true},
		{[]api.Event{begin(0), begin(1), commit(0, 3), commit(1, 2)}, 2, true},
		{[]api.Event{begin(0), begin(1), commit(0, 2), commit(1, 2)}, 2, false},
		{[]api.Event{begin(0), commit(0, 2), begin(1), commit(1, 3)}, 2, true},
		{[]api.Event{begin(0), commit(0, 3), begin(1), commit(1, 2)}, 2, false},
		{[]api.Event{begin(0), begin(2), commit(0, 4), begin(1), commit(2, 2), commit(1, 3)}, 3, false},
		{[]api.Event{begin(0), begin(2), commit(0, 3), begin(1), commit(2, 2), commit(1, 4)}, 3, true},
		{[]api.Event{begin(0), begin(2), commit(0, 2), begin(1), commit(2, 4), commit(1, 3)}, 3, true},
		{[]api.Event{begin(0), abort(0), begin(1), commit(1, 2), begin(0)}, 3, true},
		{[]api.Event{begin(0), commit(0, 2)}, 0, false},
	} {
		if got := Check(s, x.l, make([][]api.Op, x.progs)...); got != x.want {
			t.Error(i, got)
		}
	}
}

func someOp(rnd *rand.Rand) api.Op {
	p := key(1+rnd.Intn(6), int64(rnd.Intn(6)))
	switch rnd.Intn(9) {
	case 0, 1, 2:
		return insert(int64(rnd.Intn(6)), int64(rnd.Intn(3)))
	case 3, 4:
		return add(p, int64(rnd.Intn(5)))
	case 5:
		return remove(p)
	case 6:
		return sum()
	}
	return scan(p)
}

// TestOneByOne: W1.
func TestOneByOne(t *testing.T) {
	ends := map[api.Errno]int{}
	for seed := range int64(400) {
		rnd := rand.New(rand.NewSource(seed))
		e, _ := engn.New(schema(), engn.Limits{Delta: 5 + rnd.Intn(200)>>rnd.Intn(8), Groups: rnd.Intn(20)})
		var progs [][]api.Op
		clients := 2 + rnd.Intn(7)
		for range 150 {
			client := rnd.Intn(clients)
			var ops []api.Op
			for range rnd.Intn(5) {
				ops = append(ops, someOp(rnd))
			}
			if rnd.Intn(3) == 0 && e.Begin(client, ops...) {
				progs = append(progs, ops)
			}
			e.Step(client)
			if rnd.Intn(5) == 0 {
				e.Care(1+rnd.Intn(3), 1+rnd.Intn(64))
			}
		}
		l := e.Log()
		if !Check(schema(), l, progs...) {
			t.Fatal(seed, l)
		}
		if rows, ok := Replay(schema(), l, progs...); !ok || !schm.Same(rows, e.Rows()) {
			t.Fatal(seed, rows, e.Rows())
		}
		for _, x := range l {
			if x.Kind == api.LCommit || x.Kind == api.LAbort {
				ends[x.Err]++
			}
		}
	}
	for _, err := range []api.Errno{api.OK, api.ErrDup, api.ErrFull, api.ErrConflict, api.ErrValid, api.ErrDep} {
		if ends[err] == 0 {
			t.Error("never came:", err, ends)
		}
	}
}

func TestArgumentsStay(t *testing.T) {
	l, progs := told()
	rows, _ := Replay(schema(), l, progs...)
	rows[0][0] = num(99)
	Check(schema(), l, progs...)
	again, progsAgain := told()
	if !reflect.DeepEqual(l, again) || !reflect.DeepEqual(progs, progsAgain) {
		t.Error("changed")
	}
}
