package tabl

import (
	"math/rand"
	"reflect"
	"slices"
	"testing"

	"colonnade/api"
	"colonnade/pred"
)

func num(n int64) api.Val   { return api.Val{Kind: api.KInt, Int: n} }
func text(s string) api.Val { return api.Val{Kind: api.KBytes, Bytes: []byte(s)} }

func yes() api.Pred { return api.Pred{Kind: api.PTrue} }

func schema() api.Schema {
	return api.Schema{Cols: []api.Col{{Name: "id", Kind: api.KInt}, {Name: "b", Kind: api.KBytes, Null: true}}}
}

func row(key int64) []api.Val { return []api.Val{num(key), text("ab")} }
func from(at int) api.Span    { return api.Span{Begin: api.Stamp{At: at}} }
func places(t *Table) [][]int {
	var l [][]int
	for _, g := range t.Groups() {
		l = append(l, g.IDs())
	}
	return l
}

// table has so many versions, of keys 10, 20 ..
func table(t *testing.T, n, delta, groups int) *Table {
	t.Helper()
	tab, ok := New(schema(), delta, groups)
	if !ok {
		t.Fatal("not made")
	}
	for i := 1; i <= n; i++ {
		if id, ok := tab.Add(row(int64(10*i)), from(i)); !ok || id != i {
			t.Fatal(i, id, ok)
		}
	}
	return tab
}

func TestNew(t *testing.T) {
	tab := table(t, 0, 5, 5)
	if len(tab.IDs()) != 0 || len(tab.Delta()) != 0 || len(tab.Groups()) != 0 || !reflect.DeepEqual(tab.Schema(), schema()) {
		t.Error("not empty")
	}
	if tab, ok := New(api.Schema{}, 5, 5); ok || tab != nil {
		t.Error("not Ok")
	}
	for delta, want := range map[int]int{-1: 1, 0: 1, 3: 3, 1000: 1000, 5000: 1000} {
		tab := table(t, want, delta, 0)
		if id, ok := tab.Add(row(1), from(1)); ok || id != 0 {
			t.Error(delta, id)
		}
	}
	for groups, want := range map[int]int{-1: 0, 0: 0, 2: 2, 100: 100, 500: 100} {
		tab := table(t, 101, 1000, groups)
		n := 0
		for tab.Fold(n + 1) {
			n++
		}
		if n != want || len(tab.Delta()) != 101-n {
			t.Error(groups, n)
		}
	}
}

func TestAdd(t *testing.T) {
	tab := table(t, 1, 2, 2)
	if id, ok := tab.Add(row(1)[:1], from(1)); ok || id != 0 {
		t.Error(id)
	}
	if id, ok := tab.Add([]api.Val{text("x"), text("y")}, from(1)); ok || id != 0 {
		t.Error(id)
	}
	if id, ok := tab.Add(row(10), from(3)); !ok || id != 2 { // one more of that key
		t.Error(id)
	}
	tab.Add(row(1), from(1))
	tab.Drop(2)
	if id, ok := tab.Add(row(1), from(1)); !ok || id != 3 {
		t.Error(id)
	}
	tab.Fold(1, 3)
	if id, ok := tab.Add(row(1), from(1)); !ok || id != 4 {
		t.Error(id)
	}
}

func TestEverywhere(t *testing.T) {
	tab := table(t, 4, 9, 9)
	if !tab.Fold(2, 3) {
		t.Fatal("Fold")
	}
	if !slices.Equal(tab.IDs(), []int{1, 2, 3, 4}) || !slices.Equal(tab.Delta(), []int{1, 4}) || !reflect.DeepEqual(places(tab), [][]int{{2, 3}}) {
		t.Error(tab.IDs(), tab.Delta(), places(tab))
	}
	for id := 1; id <= 4; id++ {
		s := from(7 * id)
		if !tab.Set(id, s) {
			t.Error(id)
		}
		want := api.Version{ID: id, Row: row(int64(10 * id)), Span: s}
		if v, ok := tab.Get(id); !ok || !reflect.DeepEqual(v, want) {
			t.Error(id, v)
		}
	}
	for _, id := range []int{0, 5, -1} {
		if v, ok := tab.Get(id); ok || !reflect.DeepEqual(v, api.Version{}) || tab.Set(id, from(1)) || tab.Put(id, row(1)) || tab.Drop(id) {
			t.Error(id, v)
		}
	}
	if tab.Put(2, row(99)) || tab.Drop(2) || tab.Put(1, row(99)[:1]) || !tab.Put(1, row(99)) {
		t.Error("Put, Drop")
	}
	if v, _ := tab.Get(1); v.Row[0].Int != 99 || v.Span != from(7) {
		t.Error(v)
	}
	if !tab.Drop(1) || !slices.Equal(tab.IDs(), []int{2, 3, 4}) {
		t.Error(tab.IDs())
	}
}

func TestKeysAndPick(t *testing.T) {
	tab, _ := New(schema(), 9, 9)
	for _, key := range []int64{5, 7, 5, 5, 8, 7} {
		tab.Add(row(key), from(1))
	}
	tab.Fold(1, 5)
	tab.Fold(2, 4)
	for key, want := range map[int64][]int{5: {1, 3, 4}, 7: {2, 6}, 8: {5}, 9: nil} {
		if got := tab.Keys(key); !slices.Equal(got, want) {
			t.Error(key, got)
		}
	}
	more := api.Pred{Kind: api.PCmp, Op: api.CGt, Val: num(5)}
	for i, x := range []struct {
		p    api.Pred
		want []int
	}{
		{yes(), []int{1, 2, 3, 4, 5, 6}},
		{more, []int{2, 5, 6}},
		{pred.Not(more), []int{1, 3, 4}},
		{pred.Any(), nil},
		{api.Pred{Kind: api.PNull, Col: 1}, nil},
		{api.Pred{Kind: 99}, nil},
	} {
		if got := tab.Pick(x.p); !slices.Equal(got, x.want) {
			t.Error(i, got)
		}
	}
}

func TestFold(t *testing.T) {
	many := make([]int, 65)
	for i := range many {
		many[i] = i + 1
	}
	tab := table(t, 70, 100, 2)
	tab.Fold(70)
	for i, ids := range [][]int{nil, many, {2, 1}, {1, 1}, {70}, {69, 70}, {71}, {0, 1}} {
		if tab.Fold(ids...) || len(tab.Delta()) != 69 || len(tab.Groups()) != 1 {
			t.Error(i)
		}
	}
	if !tab.Fold(many[:64]...) || tab.Fold(65) || len(tab.Delta()) != 5 {
		t.Error(tab.Delta())
	}
	if !reflect.DeepEqual(places(tab), [][]int{{70}, many[:64]}) {
		t.Error(places(tab))
	}
}

func TestJoin(t *testing.T) {
	for i, x := range []struct {
		a, b int
		ids  []int
		want [][]int
		ok   bool
	}{
		{0, 2, []int{1, 2, 5, 6}, [][]int{{1, 2, 5, 6}, {3, 4}, {7}}, true},
		{2, 0, []int{2, 5}, [][]int{{2, 5}, {3, 4}, {7}}, true},
		{1, 2, []int{3}, [][]int{{1, 6}, {3}, {7}}, true},
		{1, 2, nil, [][]int{{1, 6}, {7}}, true},
		{1, 1, []int{4}, [][]int{{1, 6}, {4}, {2, 5}, {7}}, true},
		{1, 1, nil, [][]int{{1, 6}, {2, 5}, {7}}, true},
		{3, 3, []int{7}, [][]int{{1, 6}, {3, 4}, {2, 5}, {7}}, true},
		{0, 3, nil, [][]int{{3, 4}, {2, 5}}, true},
		{0, 4, nil, nil, false},
		{-1, 0, nil, nil, false},
		{0, -1, nil, nil, false},
		{0, 1, []int{2}, nil, false},
		{0, 1, []int{1, 8}, nil, false},
		{0, 1, []int{1, 9}, nil, false},
		{0, 1, []int{3, 1}, nil, false},
		{0, 1, []int{1, 1}, nil, false},
		{0, 0, []int{3}, nil, false},
	} {
		tab := table(t, 8, 100, 4)
		for _, ids := range [][]int{{1, 6}, {3, 4}, {2, 5}, {7}} {
			tab.Fold(ids...)
		}
		before := places(tab)
		if got := tab.Join(x.a, x.b, x.ids...); got != x.ok {
			t.Error(i, got)
		}
		want := x.want
		if !x.ok {
			want = before
		}
		if got := places(tab); !reflect.DeepEqual(got, want) || !slices.Equal(tab.Delta(), []int{8}) {
			t.Error(i, got)
		}
	}
}

func TestJoinOfTooMany(t *testing.T) {
	var ids []int
	for i := range 65 {
		ids = append(ids, i+1)
	}
	tab := table(t, 65, 100, 4)
	tab.Fold(ids[:60]...)
	tab.Fold(ids[60:]...)
	if tab.Join(0, 1, ids...) || len(tab.Groups()) != 2 {
		t.Error("65")
	}
	tab.Set(64, from(99))
	if !tab.Join(0, 1, ids[1:]...) || !slices.Equal(tab.IDs(), ids[1:]) {
		t.Error("64")
	}
	if v, ok := tab.Get(64); !ok || !reflect.DeepEqual(v, api.Version{ID: 64, Row: row(640), Span: from(99)}) {
		t.Error(v)
	}
}

// TestNobodySeesWhereAVersionIs: W2.
func TestNobodySeesWhereAVersionIs(t *testing.T) {
	rnd := rand.New(rand.NewSource(14))
	for range 100 {
		plain, folded := table(t, 30, 100, 50), table(t, 30, 100, 50)
		for range 20 {
			var ids []int
			for _, id := range folded.Delta() {
				if rnd.Intn(4) == 0 {
					ids = append(ids, id)
				}
			}
			folded.Fold(ids...)
			if n := len(folded.Groups()); n > 0 && rnd.Intn(2) == 0 {
				a, b := rnd.Intn(n), rnd.Intn(n)
				ids := slices.Concat(folded.Groups()[a].IDs(), folded.Groups()[b].IDs())
				slices.Sort(ids)
				folded.Join(a, b, slices.Compact(ids)...)
			}
			id := 1 + rnd.Intn(30)
			s := from(rnd.Intn(100))
			plain.Set(id, s)
			folded.Set(id, s)
			p := api.Pred{Kind: api.PCmp, Op: 1 + rnd.Intn(6), Val: num(int64(rnd.Intn(31) * 10))}
			if !slices.Equal(plain.Pick(p), folded.Pick(p)) || !slices.Equal(plain.IDs(), folded.IDs()) {
				t.Fatal(p, plain.Pick(p), folded.Pick(p))
			}
			for id := range 32 {
				a, ok := plain.Get(id)
				b, ok2 := folded.Get(id)
				if ok != ok2 || !reflect.DeepEqual(a, b) || !slices.Equal(plain.Keys(int64(10*id)), folded.Keys(int64(10*id))) {
					t.Fatal(id, a, b)
				}
			}
		}
		if len(folded.Groups()) == 0 {
			t.Error("never folded")
		}
	}
}

func TestMemoryIsNew(t *testing.T) {
	s := schema()
	tab, _ := New(s, 9, 9)
	s.Cols[0].Name = "x"
	tab.Schema().Cols[1].Name = "y"
	if !reflect.DeepEqual(tab.Schema(), schema()) {
		t.Error(tab.Schema())
	}
	r := row(1)
	tab.Add(r, from(1))
	tab.Add(row(2), from(1))
	tab.Fold(1)
	r[1].Bytes[0] = 'z'
	for id := 1; id <= 2; id++ {
		v, _ := tab.Get(id)
		v.Row[1].Bytes[0] = 'z'
		if v, _ := tab.Get(id); !reflect.DeepEqual(v.Row, row(int64(id))) {
			t.Error("shared", v)
		}
	}
	tab.Groups()[0] = nil
	tab.IDs()[0], tab.Delta()[0] = 9, 9
	if tab.Groups()[0] == nil || !slices.Equal(tab.IDs(), []int{1, 2}) || !slices.Equal(tab.Delta(), []int{2}) {
		t.Error("shared")
	}
	if !tab.Groups()[0].Set(0, from(9)) {
		t.Error("Set")
	}
	if v, _ := tab.Get(1); v.Span != from(9) {
		t.Error("Groups are the thing itself")
	}
}
