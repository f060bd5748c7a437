package tool

import (
	"math"
	"math/rand"
	"testing"

	"colonnade/aggr"
	"colonnade/api"
	"colonnade/bcol"
	"colonnade/bitp"
	"colonnade/care"
	"colonnade/code"
	"colonnade/delt"
	"colonnade/engn"
	"colonnade/expr"
	"colonnade/grop"
	"colonnade/hist"
	"colonnade/icol"
	"colonnade/modl"
	"colonnade/norm"
	"colonnade/null"
	"colonnade/pred"
	"colonnade/prog"
	"colonnade/rept"
	"colonnade/rond"
	"colonnade/schm"
	"colonnade/segm"
	"colonnade/stam"
	"colonnade/tabl"
	"colonnade/text"
	"colonnade/txns"
	"colonnade/view"
	"colonnade/work"
	"colonnade/zone"
)

// anything makes values that are Ok now and then, and mostly not.
type anything struct {
	*rand.Rand
	loop []api.Pred // that hold themselves
}

func newAnything(seed int64) anything {
	a := anything{rand.New(rand.NewSource(seed)), make([]api.Pred, 12)}
	for i := range a.loop {
		a.loop[i] = api.Pred{Kind: api.PAnd + i%3, List: a.loop[:1+i]}
	}
	return a
}

func some[T any](a anything, most int, one func() T) []T {
	var l []T
	for range a.Intn(most + 1) {
		l = append(l, one())
	}
	return l
}

func (a anything) num() int {
	switch a.Intn(8) {
	case 0:
		return math.MaxInt
	case 1:
		return math.MinInt
	case 2:
		return a.Intn(100000)
	case 3:
		return -a.Intn(10)
	}
	return a.Intn(8)
}

func (a anything) bytes() []byte {
	b := make([]byte, a.Intn(1+a.Intn(80)))
	for i := range b {
		b[i] = byte(a.Intn(256) >> a.Intn(8))
	}
	return b
}

func (a anything) text() string { return string(a.bytes()) }

func (a anything) val() api.Val {
	if a.Intn(2) == 0 {
		return api.Val{Kind: api.KInt, Int: int64(a.Intn(5))}
	}
	v := api.Val{Kind: a.Intn(4), Null: a.Intn(4) == 0}
	if a.Intn(2) == 0 {
		v.Int = int64(a.num())
	}
	if a.Intn(2) == 0 {
		v.Bytes = a.bytes()
	}
	return v
}

func (a anything) row() []api.Val    { return some(a, 4, a.val) }
func (a anything) rows() [][]api.Val { return some(a, 4, a.row) }

func (a anything) fits() []api.Val {
	return []api.Val{{Kind: api.KInt, Int: int64(a.Intn(9))}, {Kind: api.KInt, Null: a.Intn(2) == 0}, {Kind: api.KBytes, Bytes: []byte("x")}}
}

func (a anything) schema() api.Schema {
	if a.Intn(2) == 0 {
		return api.Schema{Cols: []api.Col{{Name: "a", Kind: api.KInt}, {Name: "b", Kind: api.KInt, Null: true}, {Name: "c", Kind: api.KBytes, Null: true}}}
	}
	return api.Schema{Cols: some(a, 7, func() api.Col { return api.Col{Name: a.text(), Kind: a.Intn(4), Null: a.Intn(2) == 0} })}
}

func (a anything) pred(deep int) api.Pred {
	switch a.Intn(8) {
	case 0:
		return a.loop[a.Intn(len(a.loop))]
	case 1:
		return api.Pred{Kind: a.num(), Col: a.num(), Op: a.num(), Val: a.val(), List: some(a, deep, func() api.Pred { return a.pred(deep - 1) })}
	case 2, 3:
		if deep > 0 {
			return api.Pred{Kind: api.PAnd + a.Intn(3), List: some(a, 3, func() api.Pred { return a.pred(deep - 1) })}
		}
	case 4:
		return api.Pred{Kind: api.PNull, Col: a.Intn(4) - 1}
	case 5:
		return api.Pred{Kind: api.PTrue}
	}
	return api.Pred{Kind: api.PCmp, Col: a.Intn(2), Op: 1 + a.Intn(6), Val: a.val()}
}

func (a anything) op() api.Op {
	switch a.Intn(8) {
	case 0, 1:
		return api.Op{Kind: api.OInsert, Row: a.fits()}
	case 2:
		return api.Op{Kind: api.ODelete, Pred: a.pred(2)}
	case 3:
		return api.Op{Kind: api.OScan, Pred: a.pred(2), Cols: []int{0, 2}}
	case 4:
		return api.Op{Kind: api.OUpdate, Pred: a.pred(2), Sets: []api.Set{{Col: 1, Add: true, Val: a.val()}}}
	}
	return api.Op{
		Kind: a.Intn(8), Row: a.row(), Pred: a.pred(3), Group: a.num(), Cols: some(a, 3, a.num),
		Sets: some(a, 3, func() api.Set { return api.Set{Col: a.num(), Add: a.Intn(2) == 0, Val: a.val()} }),
		Aggs: some(a, 3, a.agg),
	}
}

func (a anything) ops() []api.Op { return some(a, 4, a.op) }
func (a anything) agg() api.Agg  { return api.Agg{Kind: a.num(), Col: a.num()} }

func (a anything) span() api.Span {
	return api.Span{Begin: api.Stamp{Txn: a.Intn(5), At: a.num()}, End: api.Stamp{Txn: a.Intn(5), At: a.num()}}
}

func (a anything) version() api.Version {
	return api.Version{ID: a.num(), Row: a.row(), Span: a.span()}
}

func (a anything) txn() api.Txn {
	return api.Txn{ID: a.Intn(5), State: a.Intn(6), Begin: a.num(), End: a.num()}
}

func (a anything) event() api.Event {
	return api.Event{Kind: a.Intn(6), Client: a.Intn(3), N: a.Intn(3), At: a.num(), Err: api.Errno(a.num()), Res: api.Res{N: a.num(), Rows: a.rows()}}
}

func columns(a anything) {
	bitp.Pack(a.num(), uint64(a.num()), 3)
	bitp.Unpack(a.bytes(), a.num(), a.num())
	bitp.At(a.bytes(), a.num(), a.num())
	r := code.Read(a.bytes())
	r.Num()
	r.Bytes(a.num())
	r.Rest()
	null.Decode(a.bytes())
	column := append([]byte{byte(a.Intn(6))}, a.bytes()...)
	icol.Decode(column, a.num())
	icol.At(column, a.num(), a.num())
	icol.Tell(a.num(), []int64{int64(a.num()), int64(a.num())})
	bcol.Decode(column, a.num())
	bcol.At(column, a.num(), a.num())
	bcol.Tell(a.num(), [][]byte{a.bytes(), a.bytes()})
}

func predicates(a anything) {
	s, p := a.schema(), a.pred(4)
	schm.Ok(s)
	schm.Fits(s, a.row())
	schm.Rows(a.row(), a.row())
	schm.Same(a.rows(), a.rows())
	pred.Ok(s, p)
	pred.Eval(p, a.row())
	pred.Same(p, p)
	pred.All(p, p)
	pred.Any(pred.Not(p))
	norm.Norm(p)
	norm.Key(p)
	zone.May(p, zone.Of(s, a.rows()), a.num())
	zone.May(p, nil, a.num())
	text.Val(a.val())
	text.ParseVal(a.num(), a.text())
	text.Pred(s, p)
	text.ParsePred(s, a.text())
}

func operations(a anything) {
	s := a.schema()
	expr.Program(s, a.ops()...)
	aggr.Sort(a.rows())
	aggr.Cols(a.rows(), a.num(), a.num())
	aggr.Groups(a.rows(), a.num(), a.agg(), api.Agg{Kind: 1 + a.Intn(4), Col: a.Intn(4)})
	aggr.Set(a.row(), api.Set{Col: a.num(), Val: a.val()})
	modl.Do(s, a.rows(), a.op())
	modl.Run(s, a.rows(), a.ops()...)
	hist.Check(s, some(a, 12, a.event), a.ops(), a.ops())
	prog.Schema(s)
	prog.ParseSchema(a.text())
	prog.Op(s, a.op())
	prog.ParseOp(s, a.text())
	rept.Event(a.event())
}

func versions(a anything) {
	s := a.schema()
	segm.Open(s, a.bytes())
	segm.Make(s, a.rows())
	if g, ok := segm.Make(s, [][]api.Val{a.fits(), a.fits()}); ok {
		g.Pick(a.pred(4))
		g.Row(a.num())
		g.Value(a.num(), a.num())
	}
	l := some(a, 5, a.txn)
	stam.State(a.num(), l...)
	stam.Sees(a.span(), a.num(), a.num(), l...)
	stam.Base(a.span(), a.num(), a.num(), l...)
	stam.May(a.span(), a.num(), l...)
	d := delt.New(a.num())
	d.Add(a.version())
	d.Add(a.version())
	d.Get(a.num())
	d.Put(a.num(), a.row())
	d.Set(a.num(), a.span())
	d.Drop(a.num())
	grop.Make(s, a.version(), a.version())
}

// tables: others work at the table and at the book meanwhile.
func tables(a anything) {
	t, ok := tabl.New(a.schema(), a.num(), a.num())
	if !ok {
		return
	}
	b := txns.New()
	b.Begin()
	for range 10 {
		t.Add(a.fits(), a.span())
		t.Add(a.row(), a.span())
	}
	t.Fold(1, 2)
	t.Fold(a.num(), a.num())
	t.Join(a.num(), a.num(), a.num())
	t.Keys(int64(a.num()))
	t.Put(a.num(), a.row())
	view.Rows(t, b, a.num(), a.num(), a.pred(3))
	view.Base(t, b, a.num(), a.num(), a.pred(3))
	run := work.New(t, b, a.ops()...)
	for range 20 {
		run.Step()
		b.Abort(a.num())
		b.Prepare(a.num())
		b.Commit(a.num())
		t.Set(a.Intn(12), a.span())
		t.Drop(a.Intn(12))
	}
	care.Compress(t, b, a.num())
	care.Collect(t, b, a.num())
	care.Merge(t, b)
}

func engines(a anything) {
	s := a.schema()
	e, ok := engn.New(s, engn.Limits{Delta: a.num(), Groups: a.num()})
	if !ok {
		return
	}
	for range 20 {
		e.Begin(a.num(), a.ops()...)
		e.Step(a.num())
		e.Care(a.num(), a.num())
		e.Busy(a.num())
		e.Book().Abort(a.num())
		e.Table().Drop(a.num())
	}
	rond.Round(e)
	rond.Run(e, 10)
	rond.Settle(e, 10)
	rept.State(e)
	hist.Check(s, e.Log(), a.ops())
	Main(a.bytes())
}

// TestNoCallPanics: whatever it is given; and each ends.
func TestNoCallPanics(t *testing.T) {
	a := newAnything(29)
	for range 200 {
		columns(a)
		predicates(a)
		operations(a)
		versions(a)
		tables(a)
		engines(a)
	}
}
