package norm

import (
	"math/rand"
	"slices"
	"testing"

	"colonnade/api"
	"colonnade/pred"
)

func num(n int64) api.Val   { return api.Val{Kind: api.KInt, Int: n} }
func text(s string) api.Val { return api.Val{Kind: api.KBytes, Bytes: []byte(s)} }
func none(kind int) api.Val { return api.Val{Kind: kind, Null: true} }

func yes() api.Pred { return api.Pred{Kind: api.PTrue} }
func compare(col, op int, v api.Val) api.Pred {
	return api.Pred{Kind: api.PCmp, Col: col, Op: op, Val: v}
}
func is(n int64) api.Pred         { return compare(0, api.CEq, num(n)) }
func isNull(col int) api.Pred     { return api.Pred{Kind: api.PNull, Col: col} }
func orOf(l ...api.Pred) api.Pred { return pred.Any(l...) }
func and(l ...api.Pred) api.Pred  { return pred.All(l...) }
func not(p api.Pred) api.Pred     { return pred.Not(p) }

// ors and alls are a POr and a PAnd of n.
func ors(n int, p api.Pred) api.Pred  { return orOf(slices.Repeat([]api.Pred{p}, n)...) }
func alls(n int, p api.Pred) api.Pred { return and(slices.Repeat([]api.Pred{p}, n)...) }

func TestNorm(t *testing.T) {
	a, b, c, d := is(1), is(2), isNull(1), compare(2, api.CLt, text("x"))
	for i, x := range []struct{ p, want api.Pred }{
		{yes(), orOf(and())},
		{not(yes()), orOf()},
		{a, orOf(and(a))},
		{c, orOf(and(c))},
		{not(c), orOf(and(not(c)))},
		{not(not(c)), orOf(and(c))},
		{not(a), orOf(and(compare(0, api.CNe, num(1))))},
		{not(d), orOf(and(compare(2, api.CGe, text("x"))))},
		{not(compare(0, api.CLe, num(1))), orOf(and(compare(0, api.CGt, num(1))))},
		{not(compare(0, api.CGt, num(1))), orOf(and(compare(0, api.CLe, num(1))))},
		{not(compare(0, api.CGe, num(1))), orOf(and(compare(0, api.CLt, num(1))))},
		{not(compare(0, api.CNe, num(1))), orOf(and(a))},
		{and(), orOf(and())},
		{orOf(), orOf()},
		{not(and()), orOf()},
		{not(orOf()), orOf(and())},
		{and(a, b), orOf(and(a, b))},
		{orOf(a, b, a), orOf(and(a), and(b), and(a))},
		{and(orOf(a, b), orOf(c, d)), orOf(and(a, c), and(a, d), and(b, c), and(b, d))},
		{and(a, orOf(b, c), d), orOf(and(a, b, d), and(a, c, d))},
		{orOf(and(a, b), orOf(c, yes()), and(d)), orOf(and(a, b), and(c), and(), and(d))},
		{and(a, yes(), and(b, and())), orOf(and(a, b))},
		{and(a, orOf()), orOf()},
		{not(and(a, c)), orOf(and(compare(0, api.CNe, num(1))), and(not(c)))},
		{not(orOf(c, not(b))), orOf(and(not(c), b))},
		{not(and(orOf(a, c), b)), orOf(and(compare(0, api.CNe, num(1)), not(c)), and(compare(0, api.CNe, num(2))))},
	} {
		if got, ok := Norm(x.p); !ok || !pred.Same(got, x.want) {
			t.Errorf("%d %v", i, got)
		}
	}
}

func TestNormBounds(t *testing.T) {
	a := is(1)
	two := orOf(a, a)
	for i, x := range []struct {
		p    api.Pred
		ands int // -1: none
	}{
		{ors(4, ors(8, a)), 32},
		{orOf(ors(8, a), ors(8, a), ors(8, a), ors(8, a), a), -1},
		{orOf(ors(8, a), ors(8, a), ors(8, a), ors(8, a), orOf()), 32},
		{alls(5, two), 32},
		{alls(6, two), -1},
		{alls(4, alls(8, a)), 1},
		{and(alls(8, a), alls(8, a), alls(8, a), alls(8, a), a), -1},
		{and(alls(8, a), alls(8, a), alls(8, a), alls(8, a), yes()), 1},
		{and(alls(6, two), orOf()), -1}, // beyond, on the way
		{and(orOf(), alls(6, two)), -1},
		{and(two, two, two, two, two, two, orOf()), -1},
		{and(orOf(), two, two, two, two, two, two), 0},
		{and(two, two, orOf(), two, two, two, two), 0},
		{not(ors(6, and(a, a))), -1},
		{not(alls(4, ors(8, a))), 4},
		{and(ors(8, a), ors(4, a), a), 32},
		{and(ors(8, a), ors(5, a)), -1},
	} {
		got, ok := Norm(x.p)
		if ok != (x.ands >= 0) || ok && len(got.List) != x.ands || !ok && got.Kind != 0 {
			t.Error(i, ok, len(got.List))
		}
	}
}

func TestKey(t *testing.T) {
	a := is(7)
	for i, x := range []struct {
		p    api.Pred
		want int64
		ok   bool
	}{
		{yes(), 0, false},
		{a, 7, true},
		{is(-3), -3, true},
		{not(compare(0, api.CNe, num(4))), 4, true},
		{compare(0, api.CLe, num(4)), 0, false},
		{compare(1, api.CEq, num(4)), 0, false},
		{and(isNull(1), is(5), is(6)), 5, true},
		{and(compare(1, api.CEq, num(9)), is(5)), 5, true},
		{orOf(a), 7, true},
		{orOf(a, a), 0, false},
		{orOf(a, orOf()), 7, true},
		{orOf(), 0, false},
		{and(), 0, false},
		{not(not(a)), 7, true},
		{and(alls(8, a), alls(8, a), alls(8, a), alls(8, a), a), 0, false},
	} {
		if got, ok := Key(x.p); got != x.want || ok != x.ok {
			t.Error(i, got, ok)
		}
	}
}

// some is any predicate, at most n deep.
func some(rnd *rand.Rand, n int) api.Pred {
	kinds := 6
	if n == 1 {
		kinds = 3
	}
	switch 1 + rnd.Intn(kinds) {
	case api.PCmp:
		if rnd.Intn(3) == 0 {
			return compare(2, 1+rnd.Intn(6), text(string(rune('a'+rnd.Intn(3)))))
		}
		return compare(rnd.Intn(2), 1+rnd.Intn(6), num(int64(rnd.Intn(3))))
	case api.PNull:
		return isNull(rnd.Intn(3))
	case api.PNot:
		return not(some(rnd, n-1))
	case api.PAnd, api.POr:
		p := api.Pred{Kind: api.PAnd + rnd.Intn(2)}
		for range rnd.Intn(4) {
			p.List = append(p.List, some(rnd, n-1))
		}
		return p
	}
	return yes()
}

func rows() [][]api.Val {
	var l [][]api.Val
	for n := range int64(3) {
		for _, b := range []api.Val{none(api.KInt), num(0), num(1), num(2)} {
			for _, c := range []api.Val{none(api.KBytes), text("a"), text("b"), text("c")} {
				l = append(l, []api.Val{num(n), b, c})
			}
		}
	}
	return l
}

func TestNormIsTrueOfTheSameRows(t *testing.T) {
	rnd := rand.New(rand.NewSource(8))
	formed := 0
	for range 4000 {
		p := some(rnd, 5)
		q, ok := Norm(p)
		if !ok {
			continue
		}
		formed++
		if !isForm(q) {
			t.Fatalf("%v is told as %v", p, q)
		}
		key, hasKey := Key(p)
		for _, row := range rows() {
			yes := pred.Eval(p, row) == api.VTrue
			if (pred.Eval(q, row) == api.VTrue) != yes {
				t.Fatalf("%v is told as %v: %v", p, q, row)
			}
			if hasKey && yes && row[0].Int != key {
				t.Fatalf("%v: key %d", p, key)
			}
		}
	}
	if formed < 3000 {
		t.Error(formed)
	}
}

func isForm(q api.Pred) bool {
	for _, a := range q.List {
		for _, x := range a.List {
			if x.Kind != api.PCmp && x.Kind != api.PNull && !(x.Kind == api.PNot && x.List[0].Kind == api.PNull) {
				return false
			}
		}
		if a.Kind != api.PAnd || len(a.List) > 32 {
			return false
		}
	}
	return q.Kind == api.POr && len(q.List) <= 32
}

func TestPredsThatAreNotOkEnd(t *testing.T) {
	loop := make([]api.Pred, 9)
	for i := range loop {
		loop[i] = api.Pred{Kind: api.PAnd + i%3, List: loop}
	}
	one := make([]api.Pred, 1)
	one[0] = api.Pred{Kind: api.PNot, List: one}
	for _, p := range []api.Pred{loop[0], loop[1], one[0], {}, {Kind: api.PNot}, {Kind: api.PNot, List: loop[:3]}, compare(9, 9, num(1)), {Kind: 12}} {
		Norm(p)
		Key(p)
	}
}

func TestMemoryIsNew(t *testing.T) {
	p := and(compare(2, api.CEq, text("ab")), orOf(is(1), is(2)))
	q, _ := Norm(p)
	q.List[0].List[0].Val.Bytes[0] = 'z'
	_ = append(q.List[0].List, yes())
	if string(p.List[0].Val.Bytes) != "ab" || string(q.List[1].List[0].Val.Bytes) != "ab" {
		t.Error("shared", p, q)
	}
}
