package aggr

import (
	"math"
	"math/rand"
	"reflect"
	"slices"
	"testing"

	"colonnade/api"
	"colonnade/schm"
)

func num(n int64) api.Val   { return api.Val{Kind: api.KInt, Int: n} }
func text(s string) api.Val { return api.Val{Kind: api.KBytes, Bytes: []byte(s)} }
func none(kind int) api.Val { return api.Val{Kind: kind, Null: true} }

func count() api.Agg                 { return api.Agg{Kind: api.ACount} }
func sumOf(col int) api.Agg          { return api.Agg{Kind: api.ASum, Col: col} }
func least(col int) api.Agg          { return api.Agg{Kind: api.AMin, Col: col} }
func most(col int) api.Agg           { return api.Agg{Kind: api.AMax, Col: col} }
func set(col int, v api.Val) api.Set { return api.Set{Col: col, Val: v} }
func add(col int, n int64) api.Set   { return api.Set{Col: col, Add: true, Val: num(n)} }

func rows() [][]api.Val {
	return [][]api.Val{
		{num(3), num(10), text("b")},
		{num(1), none(api.KInt), text("a")},
		{num(2), num(-4), none(api.KBytes)},
		{num(5), num(10), text("a")},
		{num(4), num(7), none(api.KBytes)},
	}
}

func TestSort(t *testing.T) {
	got := Sort(rows())
	for i, want := range []int64{1, 2, 3, 4, 5} {
		if got[i][0].Int != want {
			t.Error(i, got[i])
		}
	}
	if len(got) != 5 || len(Sort(nil)) != 0 {
		t.Error(got)
	}
	twice := [][]api.Val{{num(2)}, {num(1), num(9)}, {num(2)}, {num(1)}, {none(1)}}
	if got := Sort(twice); !schm.Same(got, [][]api.Val{{none(1)}, {num(1)}, {num(1), num(9)}, {num(2)}, {num(2)}}) {
		t.Error(got)
	}
}

func TestCols(t *testing.T) {
	if got, want := Cols(rows(), 2, 1), [][]api.Val{
		{none(api.KBytes), num(-4)}, {none(api.KBytes), num(7)}, {text("a"), none(api.KInt)}, {text("a"), num(10)}, {text("b"), num(10)},
	}; !schm.Same(got, want) {
		t.Error(got)
	}
	if got := Cols(rows(), 1, 1, 1); len(got) != 5 || len(got[0]) != 3 {
		t.Error(got)
	}
	if got := Cols(nil, 1); len(got) != 0 {
		t.Error(got)
	}
	Cols(rows(), 9, 3, -1)
	Cols(rows())
}

func TestGroups(t *testing.T) {
	for i, x := range []struct {
		rows  [][]api.Val
		group int
		aggs  []api.Agg
		want  [][]api.Val
	}{
		{rows(), -1, []api.Agg{count()}, [][]api.Val{{num(5)}}},
		{rows(), -1, []api.Agg{sumOf(1), least(1), most(1), count()}, [][]api.Val{{num(23), num(-4), num(10), num(5)}}},
		{rows(), 2, []api.Agg{count(), sumOf(1), least(0), most(1)}, [][]api.Val{
			{none(api.KBytes), num(2), num(3), num(2), num(7)}, {text("a"), num(2), num(10), num(1), num(10)}, {text("b"), num(1), num(10), num(3), num(10)},
		}},
		{rows(), 1, []api.Agg{sumOf(1), least(1), most(2)}, [][]api.Val{
			{none(api.KInt), num(0), none(api.KInt), text("a")}, {num(-4), num(-4), num(-4), none(api.KBytes)}, {num(7), num(7), num(7), none(api.KBytes)}, {num(10), num(20), num(10), text("b")},
		}},
		{nil, -1, []api.Agg{count(), sumOf(1), least(1), most(2)}, [][]api.Val{{num(0), num(0), none(0), none(0)}}},
		{nil, 0, []api.Agg{count()}, nil},
		{rows()[:2], 0, []api.Agg{least(2)}, [][]api.Val{{num(1), text("a")}, {num(3), text("b")}}},
	} {
		got, ok := Groups(x.rows, x.group, x.aggs...)
		if !ok || !schm.Same(got, x.want) {
			t.Error(i, got, ok)
		}
	}
	for _, group := range []int{-9, 9} {
		Groups(rows(), group, api.Agg{Kind: 9}, sumOf(-1), most(7))
	}
}

func TestSumIsOfAll(t *testing.T) {
	for i, x := range []struct {
		l    []int64
		want int64
		ok   bool
	}{
		{[]int64{math.MaxInt64, 1, -1}, math.MaxInt64, true},
		{[]int64{math.MaxInt64, math.MaxInt64, math.MinInt64, math.MinInt64, 5}, 3, true},
		{[]int64{math.MaxInt64, 1}, 0, false},
		{[]int64{math.MinInt64, -1}, 0, false},
		{[]int64{math.MinInt64, math.MinInt64}, 0, false},
		{[]int64{math.MinInt64, math.MinInt64, math.MaxInt64, 1}, math.MinInt64, true},
		{[]int64{math.MaxInt64, math.MaxInt64, 2}, 0, false},
		{[]int64{math.MinInt64}, math.MinInt64, true},
		{slices.Repeat([]int64{math.MaxInt64}, 9), 0, false},
		{[]int64{-1, -1, 1}, -1, true},
	} {
		var rows [][]api.Val
		for _, n := range x.l {
			rows = append(rows, []api.Val{num(n)})
		}
		got, ok := Groups(rows, -1, sumOf(0))
		if ok != x.ok || ok && !schm.Same(got, [][]api.Val{{num(x.want)}}) || !ok && got != nil {
			t.Error(i, got, ok)
		}
	}
}

// TestNothingHangsOnTheOrder: W1.
func TestNothingHangsOnTheOrder(t *testing.T) {
	rnd := rand.New(rand.NewSource(16))
	want := [][][]api.Val{Sort(rows()), Cols(rows(), 1, 2), nil}
	want[2], _ = Groups(rows(), 2, count(), sumOf(1), least(1), most(0))
	for range 50 {
		l := rows()
		rnd.Shuffle(len(l), func(i, j int) { l[i], l[j] = l[j], l[i] })
		groups, _ := Groups(l, 2, count(), sumOf(1), least(1), most(0))
		for i, got := range [][][]api.Val{Sort(l), Cols(l, 1, 2), groups} {
			if !schm.Same(got, want[i]) {
				t.Error(i, got)
			}
		}
	}
}

func TestSet(t *testing.T) {
	row := []api.Val{num(1), num(5), text("a"), none(api.KInt)}
	for i, x := range []struct {
		sets []api.Set
		want []api.Val
	}{
		{nil, row},
		{[]api.Set{set(1, num(9)), set(2, none(api.KBytes))}, []api.Val{num(1), num(9), none(api.KBytes), none(api.KInt)}},
		{[]api.Set{add(1, 3)}, []api.Val{num(1), num(8), text("a"), none(api.KInt)}},
		{[]api.Set{add(1, -9), add(3, 9)}, []api.Val{num(1), num(-4), text("a"), none(api.KInt)}},
		{[]api.Set{set(3, num(4)), add(3, 2), add(3, 0)}, []api.Val{num(1), num(5), text("a"), num(6)}},
		{[]api.Set{set(1, num(math.MaxInt64)), add(1, math.MinInt64)}, []api.Val{num(1), num(-1), text("a"), none(api.KInt)}},
		{[]api.Set{set(1, num(math.MaxInt64-2)), add(1, 2)}, []api.Val{num(1), num(math.MaxInt64), text("a"), none(api.KInt)}},
		{[]api.Set{set(1, num(math.MaxInt64)), add(1, 1)}, nil},
		{[]api.Set{set(1, num(math.MinInt64)), add(1, -1)}, nil},
		{[]api.Set{set(1, num(math.MinInt64)), add(1, math.MinInt64)}, nil},
		{[]api.Set{add(1, math.MaxInt64), set(1, num(0))}, nil},
		{[]api.Set{set(0, num(7))}, []api.Val{num(7), num(5), text("a"), none(api.KInt)}},
		{[]api.Set{set(4, num(1))}, nil},
		{[]api.Set{set(9, num(1))}, nil},
		{[]api.Set{set(-1, num(1))}, nil},
	} {
		got, ok := Set(row, x.sets...)
		if ok != (x.want != nil) || !schm.Same([][]api.Val{got}, [][]api.Val{x.want}) {
			t.Error(i, got, ok)
		}
	}
}

func TestMemoryIsNew(t *testing.T) {
	in := rows()
	sets := []api.Set{set(2, text("zz"))}
	sorted, cols := Sort(in), Cols(in, 2, 2)
	groups, _ := Groups(in, 2, least(2), most(2))
	one, _ := Set(in[0], sets...)
	for _, out := range [][][]api.Val{sorted, cols, groups, {one}} {
		for _, row := range out {
			for _, v := range row {
				for i := range v.Bytes {
					v.Bytes[i]++
				}
			}
			_ = append(row, num(99))
		}
	}
	if !reflect.DeepEqual(in, rows()) || string(sets[0].Val.Bytes) != "zz" {
		t.Error("shared", in)
	}
	if string(cols[2][0].Bytes) != "b" || string(cols[2][1].Bytes) != "b" {
		t.Error("shared among the answer", cols)
	}
}
