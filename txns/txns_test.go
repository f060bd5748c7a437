package txns

import (
	"slices"
	"testing"

	"colonnade/api"
)

func TestBook(t *testing.T) {
	b := New()
	if b.Now() != 1 || b.Oldest() != 1 || len(b.All()) != 0 {
		t.Error(b.Now(), b.Oldest(), b.All())
	}
	for id := 1; id <= 3; id++ {
		if got := b.Begin(); got != id || b.Now() != 1 {
			t.Error(id, got, b.Now())
		}
	}
	if at, ok := b.Prepare(2); !ok || at != 2 || b.Now() != 2 {
		t.Error(at, ok)
	}
	if id := b.Begin(); id != 4 {
		t.Error(id)
	}
	if at, ok := b.Prepare(1); !ok || at != 3 || b.Now() != 3 {
		t.Error(at, ok)
	}
	if !b.Commit(2) || !b.Abort(1) || !b.Abort(3) {
		t.Error("Commit, Abort")
	}
	want := []api.Txn{{ID: 1, State: api.XAborted, Begin: 1, End: 3}, {ID: 2, State: api.XCommitted, Begin: 1, End: 2}, {ID: 3, State: api.XAborted, Begin: 1}, {ID: 4, State: api.XActive, Begin: 2}}
	if got := b.All(); !slices.Equal(got, want) {
		t.Error(got)
	}
	b.All()[0].ID = 99
	if got := b.All(); !slices.Equal(got, want) {
		t.Error("shared", got)
	}
}

// TestStates: of each state, what may be done.
func TestStates(t *testing.T) {
	reach := map[int]func(b *Book){
		api.XActive:    func(b *Book) {},
		api.XPreparing: func(b *Book) { b.Prepare(1) },
		api.XCommitted: func(b *Book) { b.Prepare(1); b.Commit(1) },
		api.XAborted:   func(b *Book) { b.Abort(1) },
	}
	for state, f := range reach {
		made := func() *Book {
			b := New()
			b.Begin()
			f(b)
			return b
		}
		b := made()
		now := b.Now()
		if at, ok := b.Prepare(1); ok != (state == api.XActive) || ok && at != now+1 || !ok && (at != 0 || b.Now() != now) {
			t.Error(state, "Prepare", at, ok)
		}
		b = made()
		if ok := b.Commit(1); ok != (state == api.XPreparing) || ok && b.All()[0].State != api.XCommitted || b.Now() != now {
			t.Error(state, "Commit", ok)
		}
		b = made()
		if ok := b.Abort(1); ok != (state == api.XActive || state == api.XPreparing) || ok && b.All()[0].State != api.XAborted || b.Now() != now {
			t.Error(state, "Abort", ok)
		}
		b = made()
		for _, id := range []int{-1, 0, 2, 1 << 62} {
			if at, ok := b.Prepare(id); ok || at != 0 || b.Commit(id) || b.Abort(id) || b.All()[0].State != state {
				t.Error(state, id)
			}
		}
	}
}

func TestOldest(t *testing.T) {
	b := New()
	b.Begin()
	b.Begin()
	b.Prepare(1)
	b.Begin()
	b.Prepare(2)
	for i, x := range []struct {
		do   func()
		want int
	}{
		{func() {}, 1},
		{func() { b.Commit(1) }, 1},
		{func() { b.Abort(2) }, 2},
		{func() { b.Prepare(3) }, 2},
		{func() { b.Commit(3) }, 4},
		{func() { b.Begin() }, 4},
	} {
		x.do()
		if got := b.Oldest(); got != x.want {
			t.Error(i, got)
		}
	}
}

func TestPromoted(t *testing.T) {
	b := New()
	b.Begin()
	b.Prepare(1)
	if b.Clock.Now() != 2 || b.Now() != 2 {
		t.Error(b.Now())
	}
}
