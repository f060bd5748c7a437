package work

import (
	"math"
	"math/rand"
	"reflect"
	"slices"
	"testing"

	"colonnade/api"
	"colonnade/modl"
	"colonnade/pred"
	"colonnade/schm"
	"colonnade/tabl"
	"colonnade/txns"
)

func num(n int64) api.Val { return api.Val{Kind: api.KInt, Int: n} }

func schema() api.Schema {
	return api.Schema{Cols: []api.Col{{Name: "id", Kind: api.KInt}, {Name: "n", Kind: api.KInt, Null: true}}}
}

func yes() api.Pred { return api.Pred{Kind: api.PTrue} }
func key(op int, n int64) api.Pred {
	return api.Pred{Kind: api.PCmp, Op: op, Val: num(n)}
}
func is(n int64) api.Pred { return key(api.CEq, n) }

func insert(key, n int64) api.Op { return api.Op{Kind: api.OInsert, Row: []api.Val{num(key), num(n)}} }
func add(p api.Pred, n int64) api.Op {
	return api.Op{Kind: api.OUpdate, Pred: p, Sets: []api.Set{{Col: 1, Add: true, Val: num(n)}}}
}
func remove(p api.Pred) api.Op { return api.Op{Kind: api.ODelete, Pred: p} }
func scan(p api.Pred) api.Op   { return api.Op{Kind: api.OScan, Pred: p, Cols: []int{0, 1}} }
func sum(p api.Pred) api.Op {
	return api.Op{Kind: api.OAgg, Pred: p, Group: -1, Aggs: []api.Agg{{Kind: api.ASum, Col: 1}}}
}
func roll() api.Op { return api.Op{Kind: api.ORoll} }

type world struct {
	t *testing.T
	*tabl.Table
	*txns.Book
}

// newWorld has so much room, and rows of keys 1, 2 .. with 10, 20 ..
func newWorld(t *testing.T, room, rows int) world {
	t.Helper()
	tab, ok := tabl.New(schema(), room, 10)
	if !ok {
		t.Fatal("no table")
	}
	w := world{t, tab, txns.New()}
	var ops []api.Op
	for i := 1; i <= rows; i++ {
		ops = append(ops, insert(int64(i), int64(10*i)))
	}
	if rows > 0 {
		w.finish(w.run(ops...), api.OK)
	}
	return w
}

func (w world) run(ops ...api.Op) *Run { return New(w.Table, w.Book, ops...) }

// begun has done its first step, and so many ops.
func (w world) begun(done int, ops ...api.Op) *Run {
	w.t.Helper()
	r := w.run(ops...)
	w.steps(r, 1+done, api.RSome)
	return r
}

// prepared has done all its ops, and has prepared.
func (w world) prepared(ops ...api.Op) *Run {
	w.t.Helper()
	return w.begun(len(ops)+1, ops...)
}

func (w world) steps(r *Run, n, want int) {
	w.t.Helper()
	for i := range n {
		if got := r.Step(); got != want {
			w.t.Fatal(i, "Step", got, r.Err())
		}
	}
}

func (w world) finish(r *Run, err api.Errno) {
	w.t.Helper()
	for range 50 {
		if r.Step() == api.ROver {
			break
		}
	}
	w.over(r, err)
}

func (w world) over(r *Run, err api.Errno) {
	w.t.Helper()
	if r.Step() != api.ROver || r.Err() != err {
		w.t.Fatal("over", r.Err(), "not", err)
	}
	state := api.XCommitted
	if err != api.OK {
		state = api.XAborted
	}
	if x := w.All()[r.ID()-1]; x.State != state {
		w.t.Error(x)
	}
	w.traceless(r)
}

// traceless: of a Run that is over no stamp is left.
func (w world) traceless(r *Run) {
	w.t.Helper()
	for _, id := range w.IDs() {
		v, _ := w.Get(id)
		if v.Span.Begin.Txn == r.ID() || v.Span.End.Txn == r.ID() {
			w.t.Error("left", v)
		}
	}
}

// rows: what is there as of now, of those that have committed.
func (w world) rows() map[int64]int64 {
	l := map[int64]int64{}
	for _, id := range w.IDs() {
		v, _ := w.Get(id)
		if v.Span.Begin.Txn == 0 && (v.Span.End == (api.Stamp{}) || v.Span.End.Txn != 0) {
			l[v.Row[0].Int] = v.Row[1].Int
		}
	}
	return l
}

func (w world) has(want map[int64]int64) {
	w.t.Helper()
	if got := w.rows(); !reflect.DeepEqual(got, want) {
		w.t.Error("rows", got, "not", want)
	}
}

func (w world) last(r *Run, want api.Res) {
	w.t.Helper()
	l := r.Results()
	if len(l) == 0 {
		w.t.Fatal("no results")
	}
	if got := l[len(l)-1]; got.Err != want.Err || got.N != want.N || !schm.Same(got.Rows, want.Rows) {
		w.t.Error("result", got, "not", want)
	}
}

func TestStepByStep(t *testing.T) {
	w := newWorld(t, 100, 0)
	r := w.run(insert(1, 10), add(is(1), 5), scan(yes()))
	if r.ID() != 0 || r.At() != 0 || r.Err() != api.OK || len(r.Results()) != 0 || len(r.Needs()) != 0 || len(w.All()) != 0 {
		t.Error("ahead of its first step")
	}
	w.steps(r, 1, api.RSome)
	if r.ID() != 1 || len(r.Results()) != 0 || w.All()[0].State != api.XActive {
		t.Error("begun")
	}
	for n := 1; n <= 3; n++ {
		w.steps(r, 1, api.RSome)
		if len(r.Results()) != n || r.At() != 0 {
			t.Error(n, r.Results())
		}
	}
	want := []api.Res{{N: 1}, {N: 1}, {Rows: [][]api.Val{{num(1), num(15)}}}}
	if got := r.Results(); !reflect.DeepEqual(got, want) {
		t.Error(got)
	}
	w.steps(r, 1, api.RSome)
	if r.At() != 2 || w.Now() != 2 || w.All()[0].State != api.XPreparing {
		t.Error("prepared", r.At())
	}
	w.steps(r, 3, api.RSome) // a step for each read
	if w.All()[0].State != api.XPreparing {
		t.Error("ended too soon")
	}
	w.has(map[int64]int64{})
	w.steps(r, 1, api.ROver)
	w.over(r, api.OK)
	w.has(map[int64]int64{1: 15})
	if v, _ := w.Get(1); v.Span != (api.Span{Begin: api.Stamp{At: 2}}) || r.At() != 2 {
		t.Error(v)
	}
	r.Results()[0].N = 99
	if !reflect.DeepEqual(r.Results(), want) {
		t.Error("shared")
	}
}

func TestNoOps(t *testing.T) {
	w := newWorld(t, 9, 0)
	r := w.run()
	w.steps(r, 2, api.RSome)
	w.steps(r, 2, api.ROver)
	w.over(r, api.OK)
	if r.At() != 2 || len(r.Results()) != 0 {
		t.Error(r.At())
	}
}

func TestOps(t *testing.T) {
	for i, x := range []struct {
		ops  []api.Op
		res  api.Res
		rows map[int64]int64
	}{
		{[]api.Op{insert(4, 40)}, api.Res{N: 1}, map[int64]int64{1: 10, 2: 20, 3: 30, 4: 40}},
		{[]api.Op{add(key(api.CGe, 2), 5)}, api.Res{N: 2}, map[int64]int64{1: 10, 2: 25, 3: 35}},
		{[]api.Op{add(is(9), 5)}, api.Res{}, map[int64]int64{1: 10, 2: 20, 3: 30}},
		{[]api.Op{remove(key(api.CLe, 2))}, api.Res{N: 2}, map[int64]int64{3: 30}},
		{[]api.Op{remove(yes()), scan(yes())}, api.Res{}, map[int64]int64{}},
		{[]api.Op{scan(key(api.CNe, 2))}, api.Res{Rows: [][]api.Val{{num(1), num(10)}, {num(3), num(30)}}}, map[int64]int64{1: 10, 2: 20, 3: 30}},
		{[]api.Op{sum(yes())}, api.Res{Rows: [][]api.Val{{num(60)}}}, map[int64]int64{1: 10, 2: 20, 3: 30}},
		{[]api.Op{remove(is(1)), insert(1, 99), scan(is(1))}, api.Res{Rows: [][]api.Val{{num(1), num(99)}}}, map[int64]int64{1: 99, 2: 20, 3: 30}},
		{[]api.Op{insert(4, 40), add(yes(), 1), add(yes(), 1)}, api.Res{N: 4}, map[int64]int64{1: 12, 2: 22, 3: 32, 4: 42}},
		{[]api.Op{insert(4, 40), remove(yes())}, api.Res{N: 4}, map[int64]int64{}},
		{[]api.Op{insert(4, 40), remove(is(4)), insert(4, 41)}, api.Res{N: 1}, map[int64]int64{1: 10, 2: 20, 3: 30, 4: 41}},
		{[]api.Op{add(is(1), 1), remove(is(1)), scan(is(1))}, api.Res{}, map[int64]int64{2: 20, 3: 30}},
	} {
		w := newWorld(t, 100, 3)
		r := w.prepared(x.ops...)
		w.last(r, x.res)
		w.has(map[int64]int64{1: 10, 2: 20, 3: 30})
		w.finish(r, api.OK)
		w.has(x.rows)
		if t.Failed() {
			t.Fatal(i)
		}
	}
}

// TestOwnVersionsArePut: what it added itself stays one version.
func TestOwnVersionsArePut(t *testing.T) {
	w := newWorld(t, 100, 0)
	w.begun(3, insert(1, 1), add(yes(), 1), add(yes(), 1))
	if ids := w.IDs(); !slices.Equal(ids, []int{1}) {
		t.Error(ids)
	}
	w = newWorld(t, 100, 1)
	w.begun(2, add(yes(), 1), add(yes(), 1))
	if ids := w.IDs(); !slices.Equal(ids, []int{1, 2}) {
		t.Error(ids)
	}
	w = newWorld(t, 100, 0)
	w.begun(2, insert(1, 1), remove(yes()))
	if ids := w.IDs(); len(ids) != 0 {
		t.Error(ids)
	}
}

// TestErrorsAlone: what the plain model refuses, and want of room.
func TestErrorsAlone(t *testing.T) {
	top := insert(7, math.MaxInt64)
	for i, x := range []struct {
		room int
		ops  []api.Op
		err  api.Errno
	}{
		{100, []api.Op{insert(2, 0)}, api.ErrDup},
		{100, []api.Op{insert(9, 0), insert(9, 0)}, api.ErrDup},
		{100, []api.Op{add(is(2), 1), insert(2, 0)}, api.ErrDup},
		{100, []api.Op{top, sum(yes())}, api.ErrOver},
		{100, []api.Op{top, add(yes(), 1)}, api.ErrOver},
		{3, []api.Op{add(yes(), math.MaxInt64)}, api.ErrOver}, // ahead of all writing
		{100, []api.Op{remove(yes()), roll()}, api.ErrRoll},
		{3, []api.Op{insert(9, 0)}, api.ErrFull},
		{3, []api.Op{insert(1, 0)}, api.ErrDup},
		{5, []api.Op{add(yes(), 1)}, api.ErrFull},
		{4, []api.Op{insert(9, 0), remove(is(1)), add(is(2), 1)}, api.ErrFull},
	} {
		w := newWorld(t, x.room, 3)
		before := w.IDs()
		r := w.begun(len(x.ops)-1, append(slices.Clone(x.ops), scan(yes()))...)
		w.steps(r, 1, api.ROver)
		w.last(r, api.Res{Err: x.err})
		w.over(r, x.err)
		w.has(map[int64]int64{1: 10, 2: 20, 3: 30})
		if !slices.Equal(w.IDs(), before) || len(r.Results()) != len(x.ops) || r.At() != 0 {
			t.Error(i, w.IDs(), r.Results())
		}
		for _, id := range before {
			if v, _ := w.Get(id); v.Span.End != (api.Stamp{}) {
				t.Error(i, "ended", v)
			}
		}
		if t.Failed() {
			t.Fatal(i)
		}
	}
}

func TestWriteConflicts(t *testing.T) {
	for i, x := range []struct {
		other api.Op
		mine  api.Op
		err   api.Errno
	}{
		{remove(is(1)), remove(yes()), api.ErrConflict},
		{remove(is(1)), add(yes(), 1), api.ErrConflict},
		{add(is(3), 1), remove(yes()), api.ErrConflict},
		{add(is(3), 1), remove(is(2)), api.OK},
		{insert(4, 0), insert(4, 0), api.ErrConflict},
		{insert(4, 0), insert(5, 0), api.OK},
	} {
		// The other one is active, has prepared behind my begin, or has committed behind it.
		for steps := range 3 {
			w := newWorld(t, 100, 3)
			mine := w.begun(0, x.mine)
			other := w.begun(1, x.other)
			switch steps {
			case 1:
				w.steps(other, 1, api.RSome)
			case 2:
				w.finish(other, api.OK)
			}
			w.finish(mine, x.err)
			w.finish(other, api.OK)
			if t.Failed() {
				t.Fatal(i, steps)
			}
		}
	}
}

// TestAnAbortSetsFree: what one ended that was aborted may be ended.
func TestAnAbortSetsFree(t *testing.T) {
	w := newWorld(t, 100, 2)
	other := w.begun(2, add(yes(), 5), insert(9, 9), roll())
	mine := w.begun(0, add(yes(), 1), insert(9, 1))
	w.finish(other, api.ErrRoll)
	w.finish(mine, api.OK)
	w.has(map[int64]int64{1: 11, 2: 21, 9: 1})
}

// TestInsertBehindADelete: a version of the key that is over stands in nobody's way.
func TestInsertBehindADelete(t *testing.T) {
	w := newWorld(t, 100, 0)
	mine := w.begun(0, insert(1, 1))
	w.finish(w.run(insert(1, 5)), api.OK)
	w.finish(w.run(remove(is(1))), api.OK)
	w.finish(mine, api.OK)
	w.has(map[int64]int64{1: 1})

	// One that is ended by a Txn that may yet be aborted does.
	w = newWorld(t, 100, 0)
	mine = w.begun(0, insert(1, 1))
	w.finish(w.run(insert(1, 5)), api.OK)
	other := w.begun(1, remove(is(1)))
	w.finish(mine, api.ErrConflict)
	w.finish(other, api.OK)
}

func TestReadsAreCheckedAgain(t *testing.T) {
	for i, x := range []struct {
		mine, other api.Op
		err         api.Errno
	}{
		{scan(yes()), insert(9, 0), api.ErrValid},
		{scan(yes()), remove(is(1)), api.ErrValid},
		{scan(yes()), add(is(1), 1), api.ErrValid},
		{scan(is(1)), add(is(2), 1), api.OK},
		{scan(is(9)), insert(9, 0), api.ErrValid},
		{sum(is(9)), insert(8, 0), api.OK},
		{add(is(9), 1), insert(9, 0), api.ErrValid},
		{remove(is(9)), insert(9, 0), api.ErrValid},
		{scan(yes()), roll(), api.OK},
		{scan(api.Pred{Kind: api.POr}), remove(yes()), api.OK},
	} {
		w := newWorld(t, 100, 3)
		mine := w.begun(2, insert(50, 0), x.mine)
		other := w.run(x.other)
		for other.Step() != api.ROver {
		}
		w.steps(mine, 2, api.RSome) // prepares, and the read of its insert
		if x.err == api.OK {
			w.steps(mine, 1, api.RSome)
		}
		w.steps(mine, 1, api.ROver)
		w.over(mine, x.err)
		if _, ok := w.rows()[50]; ok != (x.err == api.OK) || mine.At() == 0 {
			t.Fatal(i, w.rows())
		}
	}
}

// TestWhatOnesOwnWritesDoIsNotChecked: only others' do.
func TestWhatOnesOwnWritesDoIsNotChecked(t *testing.T) {
	w := newWorld(t, 100, 3)
	r := w.run(scan(yes()), add(yes(), 1), scan(yes()), remove(is(2)), insert(2, 7), scan(yes()))
	w.finish(r, api.OK)
	w.has(map[int64]int64{1: 11, 2: 7, 3: 31})
}

func TestHangsOnOneThatPrepares(t *testing.T) {
	for i, x := range []struct{ other, mine api.Op }{
		{insert(9, 0), scan(yes())},
		{remove(is(1)), scan(yes())},
		{add(is(1), 1), scan(is(1))},
		{remove(is(1)), insert(1, 0)},
		{add(is(1), 1), sum(yes())},
		{insert(9, 0), add(is(9), 1)},
		{insert(9, 0), remove(is(9))},
	} {
		// It waits for the other one, and ends with it.
		w := newWorld(t, 100, 3)
		other := w.prepared(x.other)
		mine := w.prepared(x.mine)
		if !slices.Equal(mine.Needs(), []int{other.ID()}) {
			t.Fatal(i, mine.Needs())
		}
		w.steps(mine, 1, api.RSome)
		w.steps(mine, 3, api.RWait)
		w.finish(other, api.OK)
		w.finish(mine, api.OK)

		w = newWorld(t, 100, 3)
		other = w.prepared(x.other)
		mine = w.prepared(x.mine)
		w.steps(mine, 1, api.RSome)
		w.Abort(other.ID())
		w.steps(mine, 1, api.ROver)
		w.over(mine, api.ErrDep)
		if len(mine.Needs()) != 1 || mine.At() == 0 {
			t.Error(i, mine.Needs())
		}
	}
}

// TestHangsFromAReadThatIsChecked: one that prepares between my begin and my end.
func TestHangsFromAReadThatIsChecked(t *testing.T) {
	w := newWorld(t, 100, 3)
	mine := w.begun(1, scan(is(9)))
	one := w.prepared(insert(9, 0))
	two := w.prepared(remove(is(9)))
	if !slices.Equal(two.Needs(), []int{one.ID()}) {
		t.Fatal(two.Needs())
	}
	w.steps(mine, 2, api.RSome)
	if !slices.Equal(mine.Needs(), []int{one.ID(), two.ID()}) {
		t.Fatal(mine.Needs())
	}
	w.steps(mine, 2, api.RWait)
	w.finish(one, api.OK)
	w.steps(mine, 2, api.RWait)
	w.finish(two, api.OK)
	w.finish(mine, api.OK)
}

// TestNeedsRise: whichever op came upon them first.
func TestNeedsRise(t *testing.T) {
	w := newWorld(t, 100, 0)
	for i := range int64(4) {
		w.prepared(insert(i, 0))
	}
	mine := w.begun(4, scan(is(3)), scan(is(0)), scan(key(api.CLe, 1)), scan(is(2)))
	if !slices.Equal(mine.Needs(), []int{1, 2, 3, 4}) {
		t.Error(mine.Needs())
	}
	mine.Needs()[0] = 99
	if !slices.Equal(mine.Needs(), []int{1, 2, 3, 4}) {
		t.Error("shared", mine.Needs())
	}
}

// TestAnAbortedOneIsAheadOfWaiting: of several one is aborted, and another one prepares.
func TestAnAbortedOneIsAheadOfWaiting(t *testing.T) {
	w := newWorld(t, 100, 0)
	w.prepared(insert(1, 0))
	two := w.prepared(insert(2, 0))
	mine := w.prepared(scan(yes()))
	w.steps(mine, 1, api.RSome)
	w.steps(mine, 1, api.RWait)
	w.Abort(two.ID())
	w.steps(mine, 1, api.ROver)
	w.over(mine, api.ErrDep)
}

func TestMostNeeds(t *testing.T) {
	for n, err := range map[int]api.Errno{8: api.OK, 9: api.ErrDeps} {
		w := newWorld(t, 100, 1)
		var others []*Run
		for i := range n {
			others = append(others, w.prepared(insert(int64(100+i), 0)))
		}
		mine := w.begun(1, insert(50, 0), scan(yes()), scan(yes()))
		if err == api.OK {
			w.steps(mine, 2, api.RSome)
			if len(mine.Needs()) != 8 {
				t.Error(mine.Needs())
			}
		} else {
			w.steps(mine, 1, api.ROver)
			w.last(mine, api.Res{Err: api.ErrDeps})
			w.over(mine, err)
			if len(mine.Results()) != 2 {
				t.Error(mine.Results())
			}
		}
		// What the op itself is refused for is told ahead of it.
		dup := w.run(insert(1, 0))
		over := w.run(add(yes(), math.MaxInt64))
		w.finish(dup, api.ErrDup)
		w.finish(over, api.ErrOver)
		for _, other := range others {
			w.finish(other, api.OK)
		}
		w.finish(mine, err)
	}
}

func TestMostNeedsOfReads(t *testing.T) {
	for pairs, err := range map[int]api.Errno{4: api.OK, 5: api.ErrDeps} {
		w := newWorld(t, 100, 0)
		mine := w.begun(1, scan(yes()))
		var others []*Run
		for i := range pairs {
			others = append(others, w.prepared(insert(int64(i), 0)), w.prepared(remove(is(int64(i)))))
		}
		w.steps(mine, 1, api.RSome)
		if err == api.OK {
			w.steps(mine, 1, api.RSome)
			w.steps(mine, 1, api.RWait)
			if len(mine.Needs()) != 8 {
				t.Error(mine.Needs())
			}
		} else {
			w.steps(mine, 1, api.ROver)
		}
		for _, other := range others {
			w.finish(other, api.OK)
		}
		w.finish(mine, err)
	}
}

// TestUpdateInOrder: rows are ended in order, and the first that can't be decides.
func TestUpdateInOrder(t *testing.T) {
	for room, err := range map[int]api.Errno{3: api.ErrFull, 4: api.ErrFull, 5: api.ErrConflict, 6: api.ErrConflict} {
		w := newWorld(t, room, 3)
		held := w.begun(1, remove(is(3)))
		w.finish(w.run(add(yes(), 1)), err)
		w.has(map[int64]int64{1: 10, 2: 20, 3: 30})
		w.finish(held, api.OK)
		w.has(map[int64]int64{1: 10, 2: 20})
	}
}

func TestNotOk(t *testing.T) {
	w := newWorld(t, 9, 1)
	for i, ops := range [][]api.Op{{{}}, {{Kind: api.OInsert}}, slices.Repeat([]api.Op{roll()}, 17), {{Kind: api.OScan, Pred: yes(), Cols: []int{7}}}} {
		r := w.run(ops...)
		for range 5 {
			r.Step()
		}
		if r.Step() != api.ROver {
			t.Error(i)
		}
	}
	w.has(map[int64]int64{1: 10})
}

// TestEndedInTheBook: a transaction that somebody else ended goes nowhere.
func TestEndedInTheBook(t *testing.T) {
	for done := range 4 {
		w := newWorld(t, 9, 1)
		r := w.begun(done, insert(5, 5), remove(is(1)))
		w.Abort(r.ID())
		for r.Step() != api.ROver {
		}
		w.traceless(r)
		w.has(map[int64]int64{1: 10})
	}
}

func TestArgumentsAreNotKept(t *testing.T) {
	w := newWorld(t, 9, 1)
	ops := []api.Op{insert(5, 5), scan(pred.All(is(5)))}
	r := w.run(ops...)
	ops[0].Row[0] = num(1)
	ops[1].Pred.List[0] = is(1)
	w.steps(r, 3, api.RSome)
	w.last(r, api.Res{Rows: [][]api.Val{{num(5), num(5)}}})
	r.Results()[1].Rows[0][0] = num(7)
	w.last(r, api.Res{Rows: [][]api.Val{{num(5), num(5)}}})
	w.finish(r, api.OK)
	w.has(map[int64]int64{1: 10, 5: 5})
}

func someOp(rnd *rand.Rand) api.Op {
	p := key(1+rnd.Intn(6), int64(rnd.Intn(6)))
	switch rnd.Intn(9) {
	case 0, 1, 2:
		return insert(int64(rnd.Intn(6)), int64(rnd.Intn(3)))
	case 3, 4:
		n := int64(rnd.Intn(5))
		if rnd.Intn(8) == 0 {
			n = math.MaxInt64
		}
		return add(p, n)
	case 5:
		return remove(p)
	case 6:
		return scan(p)
	case 7:
		return sum(p)
	}
	if rnd.Intn(4) == 0 {
		return roll()
	}
	return scan(yes())
}

// TestAlone: W3, and the plain model.
func TestAlone(t *testing.T) {
	rnd := rand.New(rand.NewSource(20))
	for range 150 {
		w := newWorld(t, 1000, 0)
		var rows [][]api.Val
		for range 10 {
			var ops []api.Op
			for range rnd.Intn(6) {
				ops = append(ops, someOp(rnd))
			}
			next, told := modl.Run(schema(), rows, ops...)
			err := api.OK
			if len(told) > 0 {
				err = told[len(told)-1].Err
			}
			r := w.run(ops...)
			w.finish(r, err)
			for i, res := range r.Results() {
				if res.Err != told[i].Err || res.N != told[i].N || !schm.Same(res.Rows, told[i].Rows) {
					t.Fatal(ops, i, res, told[i])
				}
			}
			if len(told) != len(r.Results()) {
				t.Fatal(told, r.Results())
			}
			rows = next
			want := map[int64]int64{}
			for _, row := range rows {
				want[row[0].Int] = row[1].Int
			}
			w.has(want)
		}
	}
}
