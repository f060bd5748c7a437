package view

import (
	"math/rand"
	"slices"
	"testing"

	"colonnade/api"
	"colonnade/stam"
	"colonnade/tabl"
	"colonnade/txns"
)

func num(n int64) api.Val { return api.Val{Kind: api.KInt, Int: n} }

func schema() api.Schema { return api.Schema{Cols: []api.Col{{Name: "id", Kind: api.KInt}}} }

func yes() api.Pred { return api.Pred{Kind: api.PTrue} }
func below(n int64) api.Pred {
	return api.Pred{Kind: api.PCmp, Op: api.CLt, Val: num(n)}
}

func at(n int) api.Stamp  { return api.Stamp{At: n} }
func by(id int) api.Stamp { return api.Stamp{Txn: id} }

// world: 1 is active, 2 is preparing at 2, 3 is preparing at 3, 4 has committed at 4, 5 is active from 4 on.
func world(t *testing.T) (*tabl.Table, *txns.Book) {
	t.Helper()
	tab, _ := tabl.New(schema(), 100, 10)
	b := txns.New()
	for range 4 {
		b.Begin()
	}
	for id := 2; id <= 4; id++ {
		b.Prepare(id)
	}
	b.Commit(4)
	b.Begin()
	for _, v := range []struct {
		key        int64
		begin, end api.Stamp
	}{
		{50, at(1), api.Stamp{}}, // 1
		{40, at(1), by(2)},       // 2
		{40, by(2), api.Stamp{}}, // 3
		{30, by(3), api.Stamp{}}, // 4
		{20, at(1), at(4)},       // 5
		{20, at(4), api.Stamp{}}, // 6
		{10, by(5), api.Stamp{}}, // 7
		{60, at(1), by(5)},       // 8
		{50, at(1), at(2)},       // 9
		{5, by(1), api.Stamp{}},  // 10
		{50, at(1), api.Stamp{}}, // 11
	} {
		if _, ok := tab.Add([]api.Val{num(v.key)}, api.Span{Begin: v.begin, End: v.end}); !ok {
			t.Fatal("not added")
		}
	}
	return tab, b
}

func TestRowsAndBase(t *testing.T) {
	for i, x := range []struct {
		me, at   int
		p        api.Pred
		rows     []int
		rowsHang []int
		base     []int
		baseHang []int
	}{
		{5, 4, yes(), []int{7, 6, 4, 3, 1, 11}, []int{2, 3}, []int{1, 3, 4, 6, 8, 11}, []int{2, 3}},
		{5, 4, below(30), []int{7, 6}, nil, []int{6}, nil},
		{5, 4, below(31), []int{7, 6, 4}, []int{3}, []int{4, 6}, []int{3}},
		{1, 1, yes(), []int{10, 5, 2, 1, 9, 11, 8}, nil, []int{1, 2, 5, 8, 9, 11}, nil},
		{2, 2, yes(), []int{5, 3, 1, 11, 8}, nil, []int{1, 2, 5, 8, 11}, nil},
		{0, 2, yes(), []int{5, 3, 1, 11, 8}, []int{2}, []int{1, 3, 5, 8, 11}, []int{2}},
		{3, 3, yes(), []int{5, 4, 3, 1, 11, 8}, []int{2}, []int{1, 3, 5, 8, 11}, []int{2}},
		{0, 9, api.Pred{Kind: api.POr}, nil, nil, nil, nil},
	} {
		tab, b := world(t)
		check := func() {
			t.Helper()
			rows, hang := Rows(tab, b, x.me, x.at, x.p)
			var ids []int
			for _, v := range rows {
				ids = append(ids, v.ID)
				if got, _ := tab.Get(v.ID); got.Span != v.Span || got.Row[0].Int != v.Row[0].Int {
					t.Error(i, v)
				}
			}
			if !slices.Equal(ids, x.rows) || !slices.Equal(hang, x.rowsHang) {
				t.Error(i, "Rows", ids, hang)
			}
			base, hang := Base(tab, b, x.me, x.at, x.p)
			if !slices.Equal(base, x.base) || !slices.Equal(hang, x.baseHang) {
				t.Error(i, "Base", base, hang)
			}
		}
		check()
		tab.Fold(1, 5, 6)
		tab.Fold(2, 8, 9)
		check()
	}
}

func TestEmpty(t *testing.T) {
	tab, _ := tabl.New(schema(), 9, 9)
	if rows, hang := Rows(tab, txns.New(), 1, 1, yes()); len(rows) != 0 || len(hang) != 0 {
		t.Error(rows, hang)
	}
	if ids, hang := Base(tab, txns.New(), 1, 1, yes()); len(ids) != 0 || len(hang) != 0 {
		t.Error(ids, hang)
	}
	Rows(tab, txns.New(), 1, 1, api.Pred{})
}

// TestEachAlone: what a table shows is what stam tells of each version alone.
func TestEachAlone(t *testing.T) {
	rnd := rand.New(rand.NewSource(19))
	for range 300 {
		tab, _ := tabl.New(schema(), 100, 10)
		b := txns.New()
		for id := 1; id <= 6; id++ {
			b.Begin()
		}
		for range 12 {
			id := 1 + rnd.Intn(6)
			switch rnd.Intn(3) {
			case 0:
				b.Prepare(id)
			case 1:
				b.Commit(id)
			case 2:
				if rnd.Intn(3) == 0 {
					b.Abort(id)
				}
			}
		}
		stamp := func() api.Stamp {
			if rnd.Intn(2) == 0 {
				return by(1 + rnd.Intn(6))
			}
			return at(rnd.Intn(7))
		}
		for range 20 {
			tab.Add([]api.Val{num(int64(rnd.Intn(9)))}, api.Span{Begin: stamp(), End: stamp()})
		}
		me, when := rnd.Intn(7), rnd.Intn(8)
		var seen, base, seenHang, baseHang []int
		for _, id := range tab.IDs() {
			v, _ := tab.Get(id)
			if v.Row[0].Int >= 5 {
				continue
			}
			yes, hang := stam.Sees(v.Span, me, when, b.All()...)
			if yes {
				seen = append(seen, id)
			}
			seenHang = append(seenHang, hang...)
			yes, hang = stam.Base(v.Span, me, when, b.All()...)
			if yes {
				base = append(base, id)
			}
			baseHang = append(baseHang, hang...)
		}
		slices.Sort(seenHang)
		slices.Sort(baseHang)
		rows, hang := Rows(tab, b, me, when, below(5))
		var ids []int
		for i, v := range rows {
			ids = append(ids, v.ID)
			if i > 0 && (v.Row[0].Int < rows[i-1].Row[0].Int || v.Row[0].Int == rows[i-1].Row[0].Int && v.ID < rows[i-1].ID) {
				t.Fatal("not rising", rows)
			}
		}
		slices.Sort(ids)
		if !slices.Equal(ids, seen) || !slices.Equal(hang, slices.Compact(seenHang)) {
			t.Fatal(ids, seen, hang)
		}
		ids, hang = Base(tab, b, me, when, below(5))
		if !slices.Equal(ids, base) || !slices.Equal(hang, slices.Compact(baseHang)) {
			t.Fatal(ids, base, hang)
		}
	}
}
