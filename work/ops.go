package work

import (
	"colonnade/aggr"
	"colonnade/api"
	"colonnade/stam"
	"colonnade/view"
)

// result does an op and tells what it comes to. With an error some of its writing may be done: the abort undoes it.
func (r *Run) result(o api.Op) api.Res {
	switch o.Kind {
	case api.OInsert:
		return r.insert(o.Row)
	case api.OUpdate:
		return r.update(r.see(o.Pred), o.Sets)
	case api.ODelete:
		return r.remove(r.see(o.Pred))
	case api.OScan:
		return api.Res{Rows: aggr.Cols(rowsOf(r.see(o.Pred)), o.Cols...)}
	case api.OAgg:
		rows, ok := aggr.Groups(rowsOf(r.see(o.Pred)), o.Group, o.Aggs...)
		if !ok {
			return api.Res{Err: api.ErrOver}
		}
		return api.Res{Rows: rows}
	}
	return api.Res{Err: api.ErrRoll}
}

// see reads as of the begin, and keeps in mind what was read.
func (r *Run) see(p api.Pred) []api.Version {
	seen, hangs := view.Rows(r.table, r.book, r.id, r.begin, p)
	ids, _ := view.Base(r.table, r.book, r.id, r.begin, p)
	r.reads = append(r.reads, read{pred: p, ids: ids})
	r.need(hangs)
	return seen
}

func (r *Run) insert(row []api.Val) api.Res {
	key := row[0]
	switch {
	case len(r.see(api.Pred{Kind: api.PCmp, Op: api.CEq, Val: key})) > 0:
		return api.Res{Err: api.ErrDup}
	case r.isTaken(key.Int):
		return api.Res{Err: api.ErrConflict}
	case !r.add(row):
		return api.Res{Err: api.ErrFull}
	}
	return api.Res{N: 1}
}

// isTaken tells whether another one has added a version of that key that may stay, unseen as yet.
func (r *Run) isTaken(key int64) bool {
	all := r.book.All()
	for _, id := range r.table.Keys(key) {
		v, _ := r.table.Get(id)
		ended := v.Span.End.Txn == 0 && v.Span.End.At != 0
		if !ended && r.isUnseen(v.Span.Begin, all) {
			return true
		}
	}
	return false
}

func (r *Run) isUnseen(begin api.Stamp, all []api.Txn) bool {
	switch begin.Txn {
	case 0:
		return begin.At > r.begin
	case r.id:
		return false
	}
	state := stam.State(begin.Txn, all...).State
	return state == api.XActive || state == api.XPreparing
}

func (r *Run) update(seen []api.Version, sets []api.Set) api.Res {
	rows := make([][]api.Val, len(seen))
	for i, v := range seen {
		row, ok := aggr.Set(v.Row, sets...)
		if !ok {
			return api.Res{Err: api.ErrOver}
		}
		rows[i] = row
	}
	for i, v := range seen {
		if err := r.replace(v, rows[i]); err != api.OK {
			return api.Res{Err: err}
		}
	}
	return api.Res{N: len(seen)}
}

func (r *Run) remove(seen []api.Version) api.Res {
	for _, v := range seen {
		if !r.endVersion(v) {
			return api.Res{Err: api.ErrConflict}
		}
	}
	return api.Res{N: len(seen)}
}

func (r *Run) replace(v api.Version, row []api.Val) api.Errno {
	switch {
	case r.isOwn(v):
		r.table.Put(v.ID, row)
	case !r.endVersion(v):
		return api.ErrConflict
	case !r.add(row):
		return api.ErrFull
	}
	return api.OK
}

// endVersion tells false, where another one has ended the version.
func (r *Run) endVersion(v api.Version) bool {
	if r.isOwn(v) {
		return r.table.Drop(v.ID)
	}
	switch stam.May(v.Span, r.id, r.book.All()...) {
	case api.MHeld, api.MOver:
		return false
	}
	r.wrote = append(r.wrote, v.ID)
	return r.table.Set(v.ID, api.Span{Begin: v.Span.Begin, End: api.Stamp{Txn: r.id}})
}

func (r *Run) add(row []api.Val) bool {
	id, ok := r.table.Add(row, api.Span{Begin: api.Stamp{Txn: r.id}})
	if ok {
		r.wrote = append(r.wrote, id)
	}
	return ok
}

func (r *Run) isOwn(v api.Version) bool { return v.Span.Begin.Txn == r.id }

func rowsOf(l []api.Version) [][]api.Val {
	rows := make([][]api.Val, len(l))
	for i, v := range l {
		rows[i] = v.Row
	}
	return rows
}
