// Package fresh copies the plain values of package api whole, so that what a call keeps or answers shares no memory with anything else.
package fresh

import (
	"bytes"
	"slices"

	"colonnade/api"
)

// A Pred's List may hold the Pred itself, or one List many times over: a copy ends at these bounds, far beyond what an Ok one has.
const (
	mostLeft = 1 << 16
	mostDeep = 1000
)

// Val copies a value.
func Val(v api.Val) api.Val {
	v.Bytes = bytes.Clone(v.Bytes)
	return v
}

// Row copies a row.
func Row(row []api.Val) []api.Val { return list(row, Val) }

// Rows copies rows.
func Rows(rows [][]api.Val) [][]api.Val { return list(rows, Row) }

// Schema copies a schema.
func Schema(s api.Schema) api.Schema { return api.Schema{Cols: slices.Clone(s.Cols)} }

// Version copies a version.
func Version(v api.Version) api.Version {
	v.Row = Row(v.Row)
	return v
}

// Pred copies a predicate.
func Pred(p api.Pred) api.Pred {
	left := mostLeft
	return pred(p, mostDeep, &left)
}

// Preds copies predicates.
func Preds(l []api.Pred) []api.Pred { return list(l, Pred) }

// Op copies an op.
func Op(o api.Op) api.Op {
	o.Row = Row(o.Row)
	o.Pred = Pred(o.Pred)
	o.Sets = list(o.Sets, set)
	o.Cols = slices.Clone(o.Cols)
	o.Aggs = slices.Clone(o.Aggs)
	return o
}

// Ops copies ops.
func Ops(l []api.Op) []api.Op { return list(l, Op) }

// Res copies what an op came to.
func Res(r api.Res) api.Res {
	r.Rows = Rows(r.Rows)
	return r
}

// Results copies what ops came to.
func Results(l []api.Res) []api.Res { return list(l, Res) }

// Events copies what was told.
func Events(l []api.Event) []api.Event { return list(l, event) }

func event(e api.Event) api.Event {
	e.Res = Res(e.Res)
	return e
}

func set(s api.Set) api.Set {
	s.Val = Val(s.Val)
	return s
}

func pred(p api.Pred, deep int, left *int) api.Pred {
	*left -= len(p.List) + len(p.Val.Bytes)
	if *left < 0 || deep == 0 {
		return api.Pred{}
	}
	p.Val = Val(p.Val)
	p.List = list(p.List, func(q api.Pred) api.Pred { return pred(q, deep-1, left) })
	return p
}

func list[T any](l []T, one func(T) T) []T {
	if len(l) == 0 {
		return nil
	}
	out := make([]T, len(l))
	for i, v := range l {
		out[i] = one(v)
	}
	return out
}
