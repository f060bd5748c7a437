package prog

import (
	"math/rand"
	"reflect"
	"slices"
	"strings"
	"testing"

	"colonnade/api"
	"colonnade/expr"
)

func num(n int64) api.Val   { return api.Val{Kind: api.KInt, Int: n} }
func raw(s string) api.Val  { return api.Val{Kind: api.KBytes, Bytes: []byte(s)} }
func none(kind int) api.Val { return api.Val{Kind: kind, Null: true} }

// schema's names are words that the texts have, too.
func schema() api.Schema {
	return api.Schema{Cols: []api.Col{
		{Name: "id", Kind: api.KInt}, {Name: "where", Kind: api.KInt, Null: true}, {Name: "count", Kind: api.KBytes, Null: true}, {Name: "sum", Kind: api.KBytes},
	}}
}

func yes() api.Pred { return api.Pred{Kind: api.PTrue} }
func compare(col, op int, v api.Val) api.Pred {
	return api.Pred{Kind: api.PCmp, Col: col, Op: op, Val: v}
}

func TestSchema(t *testing.T) {
	col := func(name string, kind int, null bool) api.Col { return api.Col{Name: name, Kind: kind, Null: null} }
	for i, x := range []struct {
		cols []api.Col
		want string
	}{
		{[]api.Col{col("id", api.KInt, false)}, "id:int"},
		{[]api.Col{col("id", api.KInt, false), col("n", api.KInt, true), col("b", api.KBytes, false), col("c", api.KBytes, true)}, "id:int,n:int?,b:bytes,c:bytes?"},
		{[]api.Col{col("int", api.KInt, false), col("bytes", api.KInt, false)}, "int:int,bytes:int"},
	} {
		s := api.Schema{Cols: x.cols}
		if got := Schema(s); got != x.want {
			t.Error(i, got)
		}
		if got, ok := ParseSchema(x.want); !ok || !reflect.DeepEqual(got, s) {
			t.Error(i, got, ok)
		}
	}
	for i, s := range []api.Schema{{}, {Cols: []api.Col{col("id", api.KInt, true)}}, {Cols: []api.Col{col("ID", api.KInt, false)}}} {
		if got := Schema(s); got != "" {
			t.Error(i, got)
		}
	}
	for _, s := range []string{
		"", ",", "id", "id:", ":int", "id:int,", ",id:int", "id:int?", "id:bytes", "id:int,id:int", "id:Int", "id:int ", "id: int", "id:int??", "ID:int",
		"id:int:int", "id:int, n:int", "abcdefghi:int", "a:int,b:int,c:int,d:int,e:int,f:int,g:int", "id:int,n:text", "id:int,n:", "id:int,n",
	} {
		if got, ok := ParseSchema(s); ok || !reflect.DeepEqual(got, api.Schema{}) {
			t.Errorf("%q %v", s, got)
		}
	}
}

func TestOp(t *testing.T) {
	agg := func(group int, aggs ...api.Agg) api.Op {
		return api.Op{Kind: api.OAgg, Pred: yes(), Group: group, Aggs: aggs}
	}
	update := func(sets ...api.Set) api.Op { return api.Op{Kind: api.OUpdate, Pred: yes(), Sets: sets} }
	for i, x := range []struct {
		o    api.Op
		want string
	}{
		{api.Op{Kind: api.OInsert, Row: []api.Val{num(-1), none(api.KInt), raw("a"), raw("")}}, "insert -1,null,x61,x"},
		{update(api.Set{Col: 1, Val: num(5)}), "update where=5 where true"},
		{update(api.Set{Col: 1, Add: true, Val: num(-5)}, api.Set{Col: 2, Val: none(api.KBytes)}, api.Set{Col: 3, Val: raw("a")}), "update where+=-5,count=null,sum=x61 where true"},
		{api.Op{Kind: api.ODelete, Pred: yes()}, "delete where true"},
		{api.Op{Kind: api.ODelete, Pred: compare(1, api.CEq, num(5))}, "delete where where = 5"},
		{api.Op{Kind: api.ODelete, Pred: api.Pred{Kind: api.PNull, Col: 1}}, "delete where null where"},
		{api.Op{Kind: api.OScan, Pred: yes(), Cols: []int{0}}, "scan id where true"},
		{api.Op{Kind: api.OScan, Pred: compare(1, api.CNe, num(5)), Cols: []int{1, 0, 1}}, "scan where,id,where where where != 5"},
		{agg(-1, api.Agg{Kind: api.ACount}), "agg - count where true"},
		{agg(0, api.Agg{Kind: api.ACount}), "agg id count where true"},
		{agg(1, api.Agg{Kind: api.ASum, Col: 1}, api.Agg{Kind: api.AMin, Col: 2}, api.Agg{Kind: api.AMax, Col: 3}, api.Agg{Kind: api.ACount}), "agg where sum(where),min(count),max(sum),count where true"},
		{api.Op{Kind: api.ORoll}, "rollback"},
	} {
		if got := Op(schema(), x.o); got != x.want {
			t.Error(i, got)
		}
		got, ok := ParseOp(schema(), x.want)
		if !ok || Op(schema(), got) != x.want || got.Kind != x.o.Kind || !slices.Equal(got.Cols, x.o.Cols) || !slices.Equal(got.Aggs, x.o.Aggs) || got.Group != x.o.Group || len(got.Sets) != len(x.o.Sets) || len(got.Row) != len(x.o.Row) {
			t.Error(i, got, ok)
		}
	}
	for i, o := range []api.Op{{}, {Kind: api.OInsert}, {Kind: api.OScan, Pred: yes()}, {Kind: api.ORoll, Cols: []int{0}}, update(api.Set{Col: 0, Val: num(1)}), agg(-2, api.Agg{Kind: api.ACount})} {
		if got := Op(schema(), o); got != "" {
			t.Error(i, got)
		}
	}
}

// TestOpsOfOtherSchemas: of a schema that is not Ok no op is told, and none is read.
func TestOpsOfOtherSchemas(t *testing.T) {
	ops := []struct {
		o    api.Op
		text string
	}{
		{api.Op{Kind: api.ORoll}, "rollback"},
		{api.Op{Kind: api.OInsert, Row: []api.Val{num(1), num(2), num(3), num(4), num(5), num(6), num(7)}}, "insert 1,2,3,4,5,6,7"},
		{api.Op{Kind: api.OInsert, Row: []api.Val{num(1)}}, "insert 1"},
		{api.Op{Kind: api.OInsert, Row: []api.Val{raw("a")}}, "insert x61"},
		{api.Op{Kind: api.OInsert}, "insert "},
		{api.Op{Kind: api.OUpdate, Pred: yes(), Sets: []api.Set{{Col: 1, Val: num(5)}}}, "update b=5 where true"},
		{api.Op{Kind: api.ODelete, Pred: yes()}, "delete where true"},
		{api.Op{Kind: api.ODelete, Pred: compare(0, api.CEq, num(1))}, "delete where a = 1"},
		{api.Op{Kind: api.OScan, Pred: yes(), Cols: []int{0}}, "scan a where true"},
		{api.Op{Kind: api.OAgg, Pred: yes(), Group: -1, Aggs: []api.Agg{{Kind: api.ACount}}}, "agg - count where true"},
		{api.Op{Kind: api.OAgg, Pred: yes(), Group: 0, Aggs: []api.Agg{{Kind: api.AMax}}}, "agg a max(a) where true"},
	}
	ints := func(names ...string) []api.Col {
		var l []api.Col
		for _, name := range names {
			l = append(l, api.Col{Name: name, Kind: api.KInt})
		}
		return l
	}
	for i, cols := range [][]api.Col{
		nil, ints("a", "b", "c", "d", "e", "f", "g"), ints("a", "a"), ints("A"), ints(""), ints("a", "B"), ints("a", "bcdefghij"),
		{{Name: "a", Kind: api.KBytes}}, {{Name: "a", Kind: api.KInt, Null: true}}, {{Name: "a"}}, {{Name: "a", Kind: api.KInt}, {Name: "b", Kind: 3}},
	} {
		s := api.Schema{Cols: cols}
		for _, x := range ops {
			if got := Op(s, x.o); got != "" {
				t.Error(i, got)
			}
			if got, ok := ParseOp(s, x.text); ok || !reflect.DeepEqual(got, api.Op{}) {
				t.Error(i, x.text, got)
			}
		}
	}
	six := api.Schema{Cols: ints("a", "b", "c", "d", "e", "f")}
	if got := Op(six, ops[0].o); got != "rollback" {
		t.Error(got)
	}
}

func TestParseOpRefuses(t *testing.T) {
	for _, s := range []string{
		"", " ", "insert", "insert ", "insert 1", "insert 1,2,x", "insert 1,2,x,x,x", "insert 1,2,x,null", "insert null,2,x,x", "insert 01,2,x,x", "insert 1, 2,x,x", "insert 1,2,x,x ", "insert  1,2,x,x", "insert 1,2,3,x",
		"Insert 1,2,x,x", "insert 1,2,x,x where true",
		"update where true", "update where=5", "update where=5 where", "update where=5 where ", "update where=5 where no", "update id=5 where true", "update where=x where true", "update where=5,where=6 where true",
		"update where=5,count=x,sum=x,where=1,count=x where true", "update count+=x61 where true", "update where+=null where true", "update where = 5 where true", "update where=5  where true", "update where-=5 where true", "update no=5 where true", "update sum=null where true", "update where++=5 where true",
		"delete", "delete true", "delete where", "delete where ", "delete where true ", "delete  where true", "delete where where true", "deletewhere true",
		"scan where true", "scan  where true", "scan id", "scan id true", "scan no where true", "scan id, sum where true", "scan id,id,id,id,id,id,id where true", "scan id where true where true", "scan id,", "scan , where true",
		"agg count where true", "agg - where true", "agg -  where true", "agg no count where true", "agg - count() where true", "agg - count(id) where true", "agg - sum where true", "agg - sum(sum) where true", "agg - sum(no) where true", "agg - min(id where true",
		"agg - min id where true", "agg - min(id)) where true", "agg - avg(id) where true", "agg - count,count,count,count,count where true", "agg -1 count where true", "agg  count where true", "agg - count",
		"rollback ", "rollback x", " rollback", "roll", "rollback where true", "where true", "insert where true",
	} {
		if got, ok := ParseOp(schema(), s); ok || !reflect.DeepEqual(got, api.Op{}) {
			t.Errorf("%q %v", s, got)
		}
	}
}

// TestAnyOpAndAnyText: W5.
func TestAnyOpAndAnyText(t *testing.T) {
	rnd := rand.New(rand.NewSource(26))
	texts := []string{
		"insert -1,null,x61,x", "update where+=-5,count=null,sum=x61 where where = 5", "delete where not(null where)", "scan where,id where or(true,id < 7)",
		"agg where sum(where),min(count),max(sum),count where true", "agg - count where and()", "rollback", "id:int,n:int?,b:bytes,c:bytes?",
	}
	read := 0
	for range 100000 {
		b := []byte(texts[rnd.Intn(len(texts))])
		for range 1 + rnd.Intn(2) {
			i := rnd.Intn(len(b))
			switch rnd.Intn(3) {
			case 0:
				b[i] = "():,x0=+-? n"[rnd.Intn(12)]
			case 1:
				if len(b) > 1 {
					b = slices.Delete(b, i, i+1)
				}
			case 2:
				b = slices.Insert(b, i, b[rnd.Intn(len(b))])
			}
		}
		s := string(b)
		if o, ok := ParseOp(schema(), s); ok {
			read++
			if !expr.Op(schema(), o) || Op(schema(), o) != s {
				t.Fatalf("%q is read as %v", s, o)
			}
		}
		if c, ok := ParseSchema(s); ok && Schema(c) != s {
			t.Fatalf("%q is read as %v", s, c)
		}
	}
	if read == 0 {
		t.Error("none was read")
	}
	ParseOp(schema(), "scan "+strings.Repeat("id,", 100000)+"id where true")
}
