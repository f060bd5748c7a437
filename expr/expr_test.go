package expr

import (
	"slices"
	"strings"
	"testing"

	"colonnade/api"
	"colonnade/pred"
)

func num(n int64) api.Val   { return api.Val{Kind: api.KInt, Int: n} }
func text(s string) api.Val { return api.Val{Kind: api.KBytes, Bytes: []byte(s)} }
func none(kind int) api.Val { return api.Val{Kind: kind, Null: true} }

func yes() api.Pred { return api.Pred{Kind: api.PTrue} }

// schema: a key, a number that may be null, bytes that may, a number and bytes that may not.
func schema() api.Schema {
	return api.Schema{Cols: []api.Col{
		{Name: "id", Kind: api.KInt}, {Name: "n", Kind: api.KInt, Null: true}, {Name: "b", Kind: api.KBytes, Null: true},
		{Name: "m", Kind: api.KInt}, {Name: "c", Kind: api.KBytes},
	}}
}

func row() []api.Val { return []api.Val{num(1), none(api.KInt), text("x"), num(2), text("")} }

func update(sets ...api.Set) api.Op { return api.Op{Kind: api.OUpdate, Pred: yes(), Sets: sets} }
func scan(cols ...int) api.Op       { return api.Op{Kind: api.OScan, Pred: yes(), Cols: cols} }
func agg(group int, aggs ...api.Agg) api.Op {
	return api.Op{Kind: api.OAgg, Pred: yes(), Group: group, Aggs: aggs}
}

func count() api.Agg                 { return api.Agg{Kind: api.ACount} }
func set(col int, v api.Val) api.Set { return api.Set{Col: col, Val: v} }
func add(col int, v api.Val) api.Set { return api.Set{Col: col, Add: true, Val: v} }

func TestOp(t *testing.T) {
	wrong := api.Pred{Kind: api.PCmp, Col: 9, Op: api.CEq, Val: num(1)}
	for i, x := range []struct {
		o    api.Op
		want bool
	}{
		{api.Op{}, false},
		{api.Op{Kind: 7}, false},
		{api.Op{Kind: -1}, false},
		{api.Op{Kind: api.OInsert, Row: row()}, true},
		{api.Op{Kind: api.OInsert, Row: row()[:4]}, false},
		{api.Op{Kind: api.OInsert}, false},
		{update(set(1, num(5))), true},
		{update(set(1, none(api.KInt)), set(2, none(api.KBytes)), set(3, num(1)), set(4, text("x"))), true},
		{update(), false},
		{update(set(1, num(1)), set(2, text("")), set(3, num(1)), set(4, text("")), set(1, num(1))), false},
		{update(set(1, num(1)), set(1, num(1))), false},
		{update(set(1, num(1)), add(1, num(1))), false},
		{update(set(0, num(1))), false},
		{update(set(-1, num(1))), false},
		{update(set(5, num(1))), false},
		{update(set(3, none(api.KInt))), false},
		{update(set(1, none(api.KBytes))), false},
		{update(set(2, num(1))), false},
		{update(set(4, text(strings.Repeat("x", 65)))), false},
		{update(add(1, num(-5))), true},
		{update(add(3, num(5)), set(2, text("y"))), true},
		{update(add(1, none(api.KInt))), false},
		{update(add(2, text("x"))), false},
		{update(add(2, num(1))), false},
		{update(add(0, num(1))), false},
		{api.Op{Kind: api.OUpdate, Sets: []api.Set{set(1, num(1))}}, false},
		{api.Op{Kind: api.OUpdate, Pred: wrong, Sets: []api.Set{set(1, num(1))}}, false},
		{api.Op{Kind: api.ODelete, Pred: yes()}, true},
		{api.Op{Kind: api.ODelete}, false},
		{api.Op{Kind: api.ODelete, Pred: wrong}, false},
		{scan(0), true},
		{scan(4, 0, 4), true},
		{scan(0, 1, 2, 3, 4, 0), true},
		{scan(0, 1, 2, 3, 4, 0, 1), false},
		{scan(), false},
		{scan(5), false},
		{scan(0, -1), false},
		{api.Op{Kind: api.OScan, Cols: []int{0}}, false},
		{agg(-1, count()), true},
		{agg(4, count(), api.Agg{Kind: api.ASum, Col: 1}, api.Agg{Kind: api.AMin, Col: 2}, api.Agg{Kind: api.AMax, Col: 4}), true},
		{agg(0, count(), count()), true},
		{agg(0, count(), count(), count(), count(), count()), false},
		{agg(0), false},
		{agg(-2, count()), false},
		{agg(5, count()), false},
		{agg(0, api.Agg{Kind: api.ACount, Col: 1}), false},
		{agg(0, api.Agg{Kind: api.ASum, Col: 2}), false},
		{agg(0, api.Agg{Kind: api.ASum, Col: 0}), true},
		{agg(0, api.Agg{Kind: api.ASum, Col: -1}), false},
		{agg(0, api.Agg{Kind: api.AMin, Col: 5}), false},
		{agg(0, api.Agg{Kind: api.AMax, Col: -1}), false},
		{agg(0, api.Agg{Kind: 5}), false},
		{agg(0, api.Agg{}), false},
		{api.Op{Kind: api.OAgg, Aggs: []api.Agg{count()}}, false},
		{api.Op{Kind: api.ORoll}, true},
	} {
		if got := Op(schema(), x.o); got != x.want {
			t.Error(i, got)
		}
	}
}

// TestOpHasNothingElse: what a kind does not name is zero.
func TestOpHasNothingElse(t *testing.T) {
	fill := map[string]func(o *api.Op){
		"Row":   func(o *api.Op) { o.Row = row() },
		"Pred":  func(o *api.Op) { o.Pred = yes() },
		"Sets":  func(o *api.Op) { o.Sets = []api.Set{set(1, num(1))} },
		"Cols":  func(o *api.Op) { o.Cols = []int{1} },
		"Group": func(o *api.Op) { o.Group = 1 },
		"Aggs":  func(o *api.Op) { o.Aggs = []api.Agg{count()} },
	}
	for kind, named := range map[int]string{
		api.OInsert: "Row", api.OUpdate: "Pred Sets", api.ODelete: "Pred", api.OScan: "Pred Cols", api.OAgg: "Pred Group Aggs", api.ORoll: "",
	} {
		whole := api.Op{Kind: kind, Row: []api.Val{}, Sets: []api.Set{}, Cols: []int{}, Aggs: []api.Agg{}}
		for name, f := range fill {
			if strings.Contains(named, name) {
				f(&whole)
			}
		}
		if !Op(schema(), whole) {
			t.Error(kind)
		}
		for name, f := range fill {
			if !strings.Contains(named, name) {
				more := whole
				f(&more)
				if Op(schema(), more) {
					t.Error(kind, name)
				}
			}
		}
	}
	if Op(schema(), api.Op{Kind: api.ORoll, Pred: api.Pred{Col: 1}}) || Op(schema(), api.Op{Kind: api.ORoll, Group: -1}) {
		t.Error("ORoll")
	}
}

// TestOpsOfOtherSchemas: an op is one on rows of a schema that is Ok.
func TestOpsOfOtherSchemas(t *testing.T) {
	ops := []api.Op{
		{Kind: api.OInsert, Row: row()}, update(set(1, num(5))), {Kind: api.ODelete, Pred: yes()}, scan(0), agg(-1, count()), agg(0, count()), {Kind: api.ORoll},
	}
	change := func(f func(l []api.Col)) api.Schema {
		s := schema()
		f(s.Cols)
		return s
	}
	more := schema()
	more.Cols = append(more.Cols, api.Col{Name: "e", Kind: api.KInt}, api.Col{Name: "f", Kind: api.KInt})
	for i, s := range []api.Schema{
		{}, more,
		change(func(l []api.Col) { l[0].Null = true }),
		change(func(l []api.Col) { l[0].Kind = api.KBytes }),
		change(func(l []api.Col) { l[4].Kind = 0 }),
		change(func(l []api.Col) { l[4].Name = "" }),
		change(func(l []api.Col) { l[4].Name = "C" }),
		change(func(l []api.Col) { l[4].Name = "id" }),
	} {
		for _, o := range ops {
			if Op(s, o) || Program(s, o) {
				t.Error(i, o.Kind)
			}
		}
	}
	for _, o := range ops {
		if !Op(schema(), o) || !Program(schema(), o) {
			t.Error(o.Kind)
		}
	}
}

// TestMostSets: of a schema that has more columns than may be set.
func TestMostSets(t *testing.T) {
	s := schema()
	s.Cols = append(s.Cols, api.Col{Name: "e", Kind: api.KInt})
	four := []api.Set{set(5, num(1)), set(1, num(1)), set(2, text("")), set(3, num(1))}
	if !Op(s, update(four...)) || Op(s, update(append(four, set(4, text("")))...)) {
		t.Error("4, and 5")
	}
}

func TestProgram(t *testing.T) {
	roll := api.Op{Kind: api.ORoll}
	if !Program(schema()) || !Program(schema(), slices.Repeat([]api.Op{roll}, 16)...) || !Program(schema(), scan(0), roll, update(set(1, num(1)))) {
		t.Error("Ok ones")
	}
	if Program(schema(), slices.Repeat([]api.Op{roll}, 17)...) || Program(schema(), roll, api.Op{}) || Program(schema(), scan(), roll) {
		t.Error("others")
	}
}

func TestOpsThatAreNotOkEnd(t *testing.T) {
	loop := make([]api.Pred, 9)
	for i := range loop {
		loop[i] = api.Pred{Kind: api.PAnd, List: loop}
	}
	for kind := -1; kind < 9; kind++ {
		o := api.Op{Kind: kind, Pred: pred.Any(), Cols: []int{1 << 60}, Aggs: []api.Agg{{Kind: api.ASum, Col: 1 << 60}}, Group: 1 << 60}
		o.Pred.List = loop
		if Op(schema(), o) || Op(api.Schema{}, o) {
			t.Error(kind)
		}
	}
}
