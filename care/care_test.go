package care

import (
	"math/rand"
	"reflect"
	"slices"
	"testing"

	"colonnade/api"
	"colonnade/tabl"
	"colonnade/txns"
	"colonnade/view"
)

func num(n int64) api.Val { return api.Val{Kind: api.KInt, Int: n} }

func yes() api.Pred { return api.Pred{Kind: api.PTrue} }

func schema() api.Schema { return api.Schema{Cols: []api.Col{{Name: "id", Kind: api.KInt}}} }

func at(n int) api.Stamp  { return api.Stamp{At: n} }
func by(id int) api.Stamp { return api.Stamp{Txn: id} }
func live() api.Span      { return api.Span{Begin: at(1)} }
func dead(n int) api.Span { return api.Span{Begin: at(1), End: at(n)} }

// table has a version of each span.
func table(t *testing.T, groups int, spans ...api.Span) *tabl.Table {
	t.Helper()
	tab, ok := tabl.New(schema(), 1000, groups)
	if !ok {
		t.Fatal("not made")
	}
	for i, s := range spans {
		if _, ok := tab.Add([]api.Val{num(int64(i + 1))}, s); !ok {
			t.Fatal(i)
		}
	}
	return tab
}

// book's time is now, and its Oldest too, but where one is active from oldest on.
func book(now, oldest int) *txns.Book {
	b := txns.New()
	for b.Now() < now {
		if b.Now() == oldest {
			b.Begin()
		}
		id := b.Begin()
		b.Prepare(id)
		b.Commit(id)
	}
	return b
}

func places(t *tabl.Table) [][]int {
	var l [][]int
	for _, g := range t.Groups() {
		l = append(l, g.IDs())
	}
	return l
}

func count(from, n int) []int {
	l := make([]int, n)
	for i := range l {
		l[i] = from + i
	}
	return l
}

func TestCompress(t *testing.T) {
	own := api.Span{Begin: by(1)}
	held := api.Span{Begin: at(1), End: by(1)}
	for i, x := range []struct {
		spans  []api.Span
		groups int
		most   int
		want   int
		delta  []int
		folded [][]int
	}{
		{nil, 9, 64, 0, nil, nil},
		{[]api.Span{own, own}, 9, 64, 0, []int{1, 2}, nil},
		{[]api.Span{live(), own, held, dead(1), own, live()}, 9, 64, 4, []int{2, 5}, [][]int{{1, 3, 4, 6}}},
		{[]api.Span{live(), own, held, dead(1), own, live()}, 9, 2, 2, []int{2, 4, 5, 6}, [][]int{{1, 3}}},
		{[]api.Span{live(), live(), live()}, 9, 0, 1, []int{2, 3}, [][]int{{1}}},
		{[]api.Span{live(), live(), live()}, 9, -7, 1, []int{2, 3}, [][]int{{1}}},
		{slices.Repeat([]api.Span{live()}, 70), 9, 99, 64, count(65, 6), [][]int{count(1, 64)}},
		{[]api.Span{live()}, 0, 64, 0, []int{1}, nil},
	} {
		tab := table(t, x.groups, x.spans...)
		if got := Compress(tab, txns.New(), x.most); got != x.want {
			t.Error(i, got)
		}
		if !slices.Equal(tab.Delta(), x.delta) || !reflect.DeepEqual(places(tab), x.folded) {
			t.Error(i, tab.Delta(), places(tab))
		}
	}
}

func TestMerge(t *testing.T) {
	for i, x := range []struct {
		sizes []int
		want  []int
		ok    bool
	}{
		{nil, nil, false},
		{[]int{3}, nil, false},
		{[]int{3, 4}, []int{7}, true},
		{[]int{64, 1}, nil, false},
		{[]int{63, 1}, []int{64}, true},
		{[]int{60, 30, 5, 4}, []int{64, 30, 5}, true}, // 60 and 5 are more than 64, 60 and 4 are not
		{[]int{60, 30, 4, 5}, []int{64, 30, 5}, true},
		{[]int{40, 40, 40}, nil, false},
		{[]int{40, 40, 20, 20}, []int{60, 40, 20}, true},
	} {
		n := 0
		for _, size := range x.sizes {
			n += size
		}
		tab := table(t, 9, slices.Repeat([]api.Span{live()}, n)...)
		n = 1
		for _, size := range x.sizes {
			tab.Fold(count(n, size)...)
			n += size
		}
		before := tab.IDs()
		if got := Merge(tab, txns.New()); got != x.ok {
			t.Error(i, got)
		}
		var sizes []int
		for _, g := range tab.Groups() {
			sizes = append(sizes, g.Count)
		}
		want := x.want
		if !x.ok {
			want = x.sizes
		}
		if !slices.Equal(sizes, want) || !slices.Equal(tab.IDs(), before) {
			t.Error(i, sizes)
		}
	}
}

func TestMergeOfGroupsThatDoNotRise(t *testing.T) {
	tab := table(t, 9, live(), live(), live(), live())
	tab.Fold(2, 4)
	tab.Fold(1, 3)
	if !Merge(tab, txns.New()) || !reflect.DeepEqual(places(tab), [][]int{{1, 2, 3, 4}}) {
		t.Error(places(tab))
	}
}

func TestCollect(t *testing.T) {
	spans := []api.Span{dead(2), live(), dead(3), dead(4), {Begin: at(1), End: by(1)}, dead(5), live(), dead(2)}
	for i, x := range []struct {
		now, oldest int
		most        int
		fold        [][]int
		want        int
		ids         []int
		folded      [][]int
	}{
		{5, 5, 64, nil, 5, []int{2, 5, 7}, nil},
		{5, 3, 64, nil, 3, []int{2, 4, 5, 6, 7}, nil},
		{5, 1, 64, nil, 0, count(1, 8), nil},
		{4, 4, 64, nil, 4, []int{2, 5, 6, 7}, nil},
		{5, 5, 2, nil, 2, []int{2, 4, 5, 6, 7, 8}, nil},
		{5, 5, 0, nil, 1, count(2, 7), nil},
		{5, 5, 64, [][]int{{1, 2}, {3, 4}, {5, 6, 7}}, 5, []int{2, 5, 7}, [][]int{{2}, {5, 7}}},
		{5, 5, 64, [][]int{{1, 3}, {4, 6}, {2, 5}, {8}}, 5, []int{2, 5, 7}, [][]int{{2, 5}}},
		{5, 5, 3, [][]int{{1, 8}, {3, 6}}, 3, []int{2, 5, 6, 7, 8}, [][]int{{8}, {6}}},
		{5, 3, 64, [][]int{{2, 4, 5}, {1, 6}}, 3, []int{2, 4, 5, 6, 7}, [][]int{{2, 4, 5}, {6}}},
	} {
		tab := table(t, 9, spans...)
		for _, ids := range x.fold {
			tab.Fold(ids...)
		}
		if got := Collect(tab, book(x.now, x.oldest), x.most); got != x.want {
			t.Error(i, got)
		}
		if !slices.Equal(tab.IDs(), x.ids) || !reflect.DeepEqual(places(tab), x.folded) {
			t.Error(i, tab.IDs(), places(tab))
		}
		for _, id := range x.ids {
			if v, _ := tab.Get(id); v.Span != spans[id-1] || v.Row[0].Int != int64(id) {
				t.Error(i, v)
			}
		}
	}
	tab := table(t, 9, slices.Repeat([]api.Span{dead(1)}, 70)...)
	if got := Collect(tab, txns.New(), 1000); got != 64 || len(tab.IDs()) != 6 {
		t.Error(got)
	}
}

// TestNobodySeesIt: W2: as of Oldest, and of each time behind it, all is seen as it was.
func TestNobodySeesIt(t *testing.T) {
	rnd := rand.New(rand.NewSource(21))
	for range 200 {
		now := 2 + rnd.Intn(8)
		b := book(now, 1+rnd.Intn(now))
		var spans []api.Span
		for range 30 {
			s := api.Span{Begin: at(1 + rnd.Intn(now))}
			if rnd.Intn(2) == 0 {
				s.End = at(s.Begin.At + rnd.Intn(now-s.Begin.At+1))
			}
			spans = append(spans, s)
		}
		tab := table(t, 10, spans...)
		seen := func() [][]int {
			var l [][]int
			for when := b.Oldest(); when <= now; when++ {
				rows, _ := view.Rows(tab, b, 0, when, yes())
				var ids []int
				for _, v := range rows {
					ids = append(ids, v.ID)
				}
				l = append(l, ids)
			}
			return l
		}
		want := seen()
		for range 10 {
			switch rnd.Intn(3) {
			case 0:
				Compress(tab, b, rnd.Intn(10))
			case 1:
				Merge(tab, b)
			case 2:
				Collect(tab, b, rnd.Intn(10))
			}
			if got := seen(); !reflect.DeepEqual(got, want) {
				t.Fatal(got, want)
			}
		}
	}
}
