package engn

import (
	"math/rand"
	"reflect"
	"slices"
	"testing"

	"colonnade/api"
	"colonnade/schm"
	"colonnade/view"
)

func num(n int64) api.Val { return api.Val{Kind: api.KInt, Int: n} }

func schema() api.Schema {
	return api.Schema{Cols: []api.Col{{Name: "id", Kind: api.KInt}, {Name: "n", Kind: api.KInt, Null: true}}}
}

func yes() api.Pred { return api.Pred{Kind: api.PTrue} }
func key(op int, n int64) api.Pred {
	return api.Pred{Kind: api.PCmp, Op: op, Val: num(n)}
}

func insert(key, n int64) api.Op { return api.Op{Kind: api.OInsert, Row: []api.Val{num(key), num(n)}} }
func add(p api.Pred, n int64) api.Op {
	return api.Op{Kind: api.OUpdate, Pred: p, Sets: []api.Set{{Col: 1, Add: true, Val: num(n)}}}
}
func remove(p api.Pred) api.Op { return api.Op{Kind: api.ODelete, Pred: p} }
func scan(p api.Pred) api.Op   { return api.Op{Kind: api.OScan, Pred: p, Cols: []int{0, 1}} }
func roll() api.Op             { return api.Op{Kind: api.ORoll} }

func engine(t *testing.T, l Limits) *Engine {
	t.Helper()
	e, ok := New(schema(), l)
	if !ok {
		t.Fatal("not made")
	}
	return e
}

func finish(t *testing.T, e *Engine, client int) {
	t.Helper()
	for n := 0; e.Busy(client); n++ {
		if !e.Step(client) || n > 50 {
			t.Fatal("does not end")
		}
	}
}

func do(t *testing.T, e *Engine, client int, ops ...api.Op) {
	t.Helper()
	if !e.Begin(client, ops...) {
		t.Fatal("not begun")
	}
	finish(t, e, client)
}

func TestNew(t *testing.T) {
	if e, ok := New(api.Schema{}, Limits{9, 9}); ok || e != nil {
		t.Error("not Ok")
	}
	e := engine(t, Limits{5000, -3})
	if e.Delta != 5000 || e.Groups != -3 || e.Limits != (Limits{5000, -3}) {
		t.Error(e.Limits)
	}
	if len(e.Log()) != 0 || len(e.Rows()) != 0 || e.Book().Now() != 1 || len(e.Table().IDs()) != 0 {
		t.Error("not empty")
	}
	for client := -1; client <= 8; client++ {
		if e.Step(client) || e.Busy(client) {
			t.Error(client)
		}
	}
	for range 2 {
		do(t, e, 0, insert(int64(len(e.Rows())), 0))
	}
	if e.Care(1, 64) {
		t.Error("there is no room for a group")
	}
	if one := engine(t, Limits{}); one.Begin(0, insert(1, 1), insert(2, 2)) {
		finish(t, one, 0)
		if l := one.Log(); l[len(l)-1].Err != api.ErrFull {
			t.Error(l)
		}
	}
}

func TestBeginAndStep(t *testing.T) {
	e := engine(t, Limits{99, 9})
	for client := -2; client <= 9; client++ {
		if got := e.Begin(client, scan(yes())); got != (client >= 0 && client <= 7) || got != e.Busy(client) {
			t.Error(client, got)
		}
	}
	if e.Begin(3, scan(yes())) {
		t.Error("busy")
	}
	if x := e.Book().All(); len(x) != 8 || x[7].State != api.XActive {
		t.Error("the first step is done", x)
	}
	finish(t, e, 3)
	before := e.Log()
	for i, ops := range [][]api.Op{{{}}, slices.Repeat([]api.Op{roll()}, 17), {{Kind: api.OScan, Pred: yes()}}} {
		if e.Begin(3, ops...) || e.Busy(3) || !reflect.DeepEqual(e.Log(), before) || len(e.Book().All()) != 8 {
			t.Error(i)
		}
	}
	if e.Step(3) || e.Step(-1) || e.Step(8) {
		t.Error("nothing to do")
	}
	if !e.Begin(3) || !e.Busy(3) || !e.Step(3) || !e.Step(3) || e.Busy(3) || e.Step(3) {
		t.Error("a program without ops")
	}
}

func TestLog(t *testing.T) {
	e := engine(t, Limits{99, 9})
	e.Begin(2, insert(1, 10), scan(yes()))
	steps := []int{2, 2, 2, 2, 2} // an op, an op, prepares, a read, a read
	for _, client := range steps {
		if !e.Step(client) {
			t.Fatal(client)
		}
	}
	e.Begin(5, scan(yes()), insert(1, 0), scan(yes()))
	if !e.Step(5) {
		t.Fatal("scan")
	}
	e.Step(5)
	e.Step(2)
	want := []api.Event{
		{Kind: api.LBegin, Client: 2},
		{Kind: api.LRes, Client: 2, Res: api.Res{N: 1}},
		{Kind: api.LRes, Client: 2, N: 1, Res: api.Res{Rows: [][]api.Val{{num(1), num(10)}}}},
		{Kind: api.LBegin, Client: 5},
		{Kind: api.LRes, Client: 5, Res: api.Res{Rows: [][]api.Val{{num(1), num(10)}}}},
		{Kind: api.LRes, Client: 5, N: 1, Res: api.Res{Err: api.ErrDup}},
		{Kind: api.LAbort, Client: 5, Err: api.ErrDup},
		{Kind: api.LCommit, Client: 2, At: 2},
	}
	if got := e.Log(); !reflect.DeepEqual(got, want) {
		t.Error(got)
	}
	if e.Busy(2) || e.Busy(5) {
		t.Error("busy")
	}
	e.Log()[2].Res.Rows[0][0] = num(99)
	if got := e.Log(); !reflect.DeepEqual(got, want) {
		t.Error("shared")
	}
	do(t, e, 2, roll())
	if l := e.Log(); !reflect.DeepEqual(l[8:], []api.Event{{Kind: api.LBegin, Client: 2}, {Kind: api.LRes, Client: 2, Res: api.Res{Err: api.ErrRoll}}, {Kind: api.LAbort, Client: 2, Err: api.ErrRoll}}) {
		t.Error(l[8:])
	}
}

func TestWaits(t *testing.T) {
	e := engine(t, Limits{99, 9})
	e.Begin(0, insert(1, 10))
	e.Step(0)
	e.Step(0)
	e.Begin(1, scan(yes()))
	for range 3 {
		if !e.Step(1) {
			t.Fatal("waits too soon")
		}
	}
	log := e.Log()
	for range 3 {
		if e.Step(1) || !e.Busy(1) || !reflect.DeepEqual(e.Log(), log) {
			t.Error("does not wait")
		}
	}
	finish(t, e, 0)
	if !e.Step(1) || e.Busy(1) {
		t.Error("still waits")
	}
}

func TestRows(t *testing.T) {
	e := engine(t, Limits{99, 9})
	do(t, e, 0, insert(3, 30), insert(1, 10), insert(2, 20))
	do(t, e, 0, remove(key(api.CEq, 2)), add(key(api.CEq, 1), 5))
	want := [][]api.Val{{num(1), num(15)}, {num(3), num(30)}}
	check := func() {
		t.Helper()
		if got := e.Rows(); !schm.Same(got, want) {
			t.Error(got)
		}
	}
	check()
	e.Begin(1, remove(key(api.CEq, 3)), insert(9, 9), add(yes(), 1))
	for range 4 { // its ops, and it prepares
		e.Step(1)
		check()
	}
	e.Care(1, 64)
	check()
	finish(t, e, 1)
	want = [][]api.Val{{num(1), num(16)}, {num(9), num(10)}}
	check()
	e.Rows()[0][0] = num(77)
	check()
}

func TestCare(t *testing.T) {
	e := engine(t, Limits{99, 9})
	for kind := -1; kind <= 5; kind++ {
		if e.Care(kind, 64) {
			t.Error(kind)
		}
	}
	do(t, e, 0, insert(1, 10), insert(2, 20), insert(3, 30))
	if !e.Care(1, 2) || len(e.Table().Delta()) != 1 || !e.Care(1, 2) || e.Care(1, 2) || len(e.Table().Groups()) != 2 {
		t.Error("Compress")
	}
	if !e.Care(2, 0) || e.Care(2, 0) || len(e.Table().Groups()) != 1 {
		t.Error("Merge")
	}
	do(t, e, 0, remove(yes()))
	for _, kind := range []int{-1, 0, 4, 1 << 60} {
		if e.Care(kind, 64) {
			t.Error(kind)
		}
	}
	if !e.Care(3, 2) || len(e.Table().IDs()) != 1 || !e.Care(3, 2) || e.Care(3, 2) || len(e.Table().Groups()) != 0 {
		t.Error("Collect")
	}
}

func someOp(rnd *rand.Rand) api.Op {
	p := key(1+rnd.Intn(6), int64(rnd.Intn(6)))
	switch rnd.Intn(8) {
	case 0, 1, 2:
		return insert(int64(rnd.Intn(6)), int64(rnd.Intn(3)))
	case 3, 4:
		return add(p, int64(rnd.Intn(5)))
	case 5:
		return remove(p)
	}
	return scan(p)
}

// reads: what a new transaction would read of some predicates.
func reads(e *Engine) [][][]api.Val {
	var l [][][]api.Val
	for _, p := range []api.Pred{yes(), key(api.CGe, 3), key(api.CEq, 2)} {
		seen, _ := view.Rows(e.Table(), e.Book(), 0, e.Book().Now(), p)
		var rows [][]api.Val
		for _, v := range seen {
			rows = append(rows, v.Row)
		}
		l = append(l, rows)
	}
	return append(l, e.Rows())
}

// TestNobodySeesTheCare: W2.
func TestNobodySeesTheCare(t *testing.T) {
	commits, folded := 0, 0
	for seed := range int64(150) {
		rnd, caring := rand.New(rand.NewSource(seed)), rand.New(rand.NewSource(-seed))
		plain, cared := engine(t, Limits{1000, 0}), engine(t, Limits{1000, 100})
		for range 250 {
			client := rnd.Intn(8)
			var ops []api.Op
			for range 1 + rnd.Intn(4) {
				ops = append(ops, someOp(rnd))
			}
			if plain.Begin(client, ops...) != cared.Begin(client, ops...) || plain.Step(client) != cared.Step(client) {
				t.Fatal(seed)
			}
			if caring.Intn(2) == 0 {
				before := reads(cared)
				if cared.Care(1+caring.Intn(3), caring.Intn(20)) {
					folded++
				}
				if after := reads(cared); !reflect.DeepEqual(before, after) {
					t.Fatal(seed, before, after)
				}
			}
		}
		if !reflect.DeepEqual(plain.Log(), cared.Log()) || !reflect.DeepEqual(reads(plain), reads(cared)) {
			t.Fatal(seed)
		}
		for _, e := range plain.Log() {
			if e.Kind == api.LCommit {
				commits++
			}
		}
	}
	if commits < 1000 || folded < 1000 {
		t.Error(commits, folded)
	}
}

func TestSameStepsDoTheSame(t *testing.T) {
	run := func() []api.Event {
		rnd := rand.New(rand.NewSource(7))
		e := engine(t, Limits{50, 5})
		for range 500 {
			client := rnd.Intn(8)
			e.Begin(client, someOp(rnd), someOp(rnd))
			e.Step(client)
			e.Care(rnd.Intn(4), rnd.Intn(9))
		}
		return e.Log()
	}
	if !reflect.DeepEqual(run(), run()) {
		t.Error("not the same")
	}
}
