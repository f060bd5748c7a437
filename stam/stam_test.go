package stam

import (
	"slices"
	"testing"

	"colonnade/api"
)

func at(n int) api.Stamp           { return api.Stamp{At: n} }
func by(id int) api.Stamp          { return api.Stamp{Txn: id} }
func never() api.Stamp             { return api.Stamp{} }
func span(a, b api.Stamp) api.Span { return api.Span{Begin: a, End: b} }

// Of each state one: 1 active, 2 preparing at 5, 3 committed at 6, 4 aborted (was preparing at 4), 7 preparing at 3; 9 of State 0.
func txns() []api.Txn {
	return []api.Txn{
		{ID: 1, State: api.XActive, Begin: 1},
		{ID: 2, State: api.XPreparing, Begin: 1, End: 5},
		{ID: 3, State: api.XCommitted, Begin: 2, End: 6},
		{ID: 4, State: api.XAborted, Begin: 2, End: 4},
		{ID: 7, State: api.XPreparing, Begin: 2, End: 3},
		{ID: 2, State: api.XAborted},
		{ID: 9},
	}
}

func TestState(t *testing.T) {
	for id, want := range map[int]api.Txn{1: txns()[0], 2: txns()[1], 7: txns()[4], 0: {}, 5: {}, -1: {}, 9: {ID: 9}} {
		if got := State(id, txns()...); got != want {
			t.Error(id, got)
		}
	}
	if got := State(1); got != (api.Txn{}) {
		t.Error(got)
	}
}

func TestSeesAndBase(t *testing.T) {
	for i, x := range []struct {
		v                  api.Span
		me, at             int
		sees, base         bool
		seesHang, baseHang []int
	}{
		{span(at(1), never()), 8, 5, true, true, nil, nil},
		{span(at(5), never()), 8, 5, true, true, nil, nil},
		{span(at(6), never()), 8, 5, false, false, nil, nil},
		{span(at(0), never()), 8, 0, true, true, nil, nil},
		{span(at(1), at(5)), 8, 5, false, false, nil, nil},
		{span(at(1), at(6)), 8, 5, true, true, nil, nil},
		{span(at(6), at(3)), 8, 5, false, false, nil, nil},
		// Begun by others.
		{span(by(1), never()), 8, 99, false, false, nil, nil},
		{span(by(2), never()), 8, 4, false, false, nil, nil},
		{span(by(2), never()), 8, 5, true, true, []int{2}, []int{2}},
		{span(by(3), never()), 8, 5, false, false, nil, nil},
		{span(by(3), never()), 8, 6, true, true, nil, nil},
		{span(by(4), never()), 8, 99, false, false, nil, nil},
		{span(by(9), never()), 8, 99, false, false, nil, nil},
		{span(by(55), never()), 8, 99, false, false, nil, nil},
		// Ended by others.
		{span(at(1), by(1)), 8, 99, true, true, nil, nil},
		{span(at(1), by(2)), 8, 4, true, true, nil, nil},
		{span(at(1), by(2)), 8, 5, false, false, []int{2}, []int{2}},
		{span(at(1), by(3)), 8, 5, true, true, nil, nil},
		{span(at(1), by(3)), 8, 6, false, false, nil, nil},
		{span(at(1), by(4)), 8, 99, true, true, nil, nil},
		{span(at(1), by(55)), 8, 99, true, true, nil, nil},
		// Both.
		{span(by(7), by(2)), 8, 4, true, true, []int{7}, []int{7}},
		{span(by(7), by(2)), 8, 5, false, false, []int{2, 7}, []int{2, 7}},
		{span(by(2), by(7)), 8, 5, false, false, []int{2, 7}, []int{2, 7}},
		{span(by(2), by(2)), 8, 5, false, false, []int{2}, []int{2}},
		{span(by(2), by(7)), 8, 4, false, false, nil, nil}, // its Begin does not hold
		{span(by(7), at(3)), 8, 4, false, false, []int{7}, []int{7}},
		{span(by(1), by(2)), 8, 9, false, false, nil, nil},
		// Of me.
		{span(by(8), never()), 8, 0, true, false, nil, nil},
		{span(by(8), by(8)), 8, 9, false, false, nil, nil},
		{span(at(1), by(8)), 8, 9, false, true, nil, nil},
		{span(by(2), by(8)), 8, 9, false, true, []int{2}, []int{2}},
		{span(by(2), never()), 2, 0, true, false, nil, nil}, // hangs on nobody
		{span(by(2), never()), 2, 9, true, false, nil, nil},
		{span(by(2), by(7)), 2, 9, false, false, []int{7}, nil},
		{span(at(1), by(2)), 2, 9, false, true, nil, nil},
		{span(by(7), by(2)), 2, 9, false, true, []int{7}, []int{7}},
		{span(by(8), by(2)), 8, 9, false, false, []int{2}, nil},
		{span(at(6), by(8)), 8, 5, false, false, nil, nil},
		// A me that is nobody.
		{span(at(1), never()), 0, 5, true, true, nil, nil},
		{span(at(1), at(3)), 0, 5, false, false, nil, nil},
		{span(at(6), never()), 0, 5, false, false, nil, nil},
	} {
		if got, hang := Sees(x.v, x.me, x.at, txns()...); got != x.sees || !slices.Equal(hang, x.seesHang) {
			t.Error(i, "Sees", got, hang)
		}
		if got, hang := Base(x.v, x.me, x.at, txns()...); got != x.base || !slices.Equal(hang, x.baseHang) {
			t.Error(i, "Base", got, hang)
		}
	}
}

func TestMay(t *testing.T) {
	for i, x := range []struct {
		end  api.Stamp
		me   int
		want int
	}{
		{never(), 1, api.MFree},
		{by(4), 1, api.MFree},
		{by(9), 1, api.MFree},
		{by(55), 1, api.MFree},
		{by(1), 1, api.MMine},
		{by(2), 2, api.MMine},
		{by(1), 2, api.MHeld},
		{by(2), 1, api.MHeld},
		{by(3), 1, api.MHeld},
		{at(3), 1, api.MOver},
		{at(99), 0, api.MOver},
		{never(), 0, api.MFree},
	} {
		if got := May(span(at(1), x.end), x.me, txns()...); got != x.want {
			t.Error(i, got)
		}
	}
	if got := May(span(at(1), by(3)), 1); got != api.MFree {
		t.Error("of no transactions", got)
	}
}

func TestArgumentsStay(t *testing.T) {
	l := txns()
	Sees(span(by(2), by(7)), 1, 9, l...)
	Base(span(by(2), by(7)), 1, 9, l...)
	if !slices.Equal(l, txns()) {
		t.Error(l)
	}
}
