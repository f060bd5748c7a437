package text

import (
	"math"
	"math/rand"
	"reflect"
	"slices"
	"strings"
	"testing"

	"colonnade/api"
	"colonnade/pred"
)

func num(n int64) api.Val   { return api.Val{Kind: api.KInt, Int: n} }
func raw(s string) api.Val  { return api.Val{Kind: api.KBytes, Bytes: []byte(s)} }
func none(kind int) api.Val { return api.Val{Kind: kind, Null: true} }

// schema's names are words that the texts have, too.
func schema() api.Schema {
	return api.Schema{Cols: []api.Col{
		{Name: "id", Kind: api.KInt}, {Name: "null", Kind: api.KInt, Null: true}, {Name: "true", Kind: api.KBytes, Null: true},
		{Name: "and", Kind: api.KInt}, {Name: "not", Kind: api.KBytes}, {Name: "x", Kind: api.KBytes},
	}}
}

func yes() api.Pred { return api.Pred{Kind: api.PTrue} }
func compare(col, op int, v api.Val) api.Pred {
	return api.Pred{Kind: api.PCmp, Col: col, Op: op, Val: v}
}
func isNull(col int) api.Pred { return api.Pred{Kind: api.PNull, Col: col} }

func same(a, b api.Val) bool {
	return a.Null == b.Null && a.Kind == b.Kind && a.Int == b.Int && string(a.Bytes) == string(b.Bytes)
}

func TestVal(t *testing.T) {
	for i, x := range []struct {
		v    api.Val
		want string
	}{
		{num(0), "0"},
		{num(-5), "-5"},
		{num(math.MinInt64), "-9223372036854775808"},
		{num(math.MaxInt64), "9223372036854775807"},
		{raw(""), "x"},
		{raw("abc"), "x616263"},
		{raw("\x00\x09\xaf\xff"), "x0009afff"},
		{none(api.KInt), "null"},
		{none(api.KBytes), "null"},
		{raw(strings.Repeat("z", 64)), "x" + strings.Repeat("7a", 64)},
	} {
		if got := Val(x.v); got != x.want {
			t.Error(i, got)
		}
		if got, ok := ParseVal(x.v.Kind, x.want); !ok || !same(got, x.v) {
			t.Error(i, got, ok)
		}
	}
	if got := Val(api.Val{Kind: 9, Bytes: []byte{1}}) + Val(api.Val{}) + Val(none(0)); got != "x01xnull" {
		t.Error(got)
	}
}

func TestParseValRefuses(t *testing.T) {
	for kind, l := range map[int][]string{
		api.KInt:   {"", "+5", "05", "-0", "00", "5 ", " 5", "1e3", "0x1", "1_0", "x05", "x", "nul", "NULL", "null ", "9223372036854775808", "-9223372036854775809", "-", "5.0"},
		api.KBytes: {"", "5", "X05", "x5", "x0A", "x0g", "x 05", "x05 ", "0x05", "x-1", "nulls", "x" + strings.Repeat("00", 65)},
	} {
		for _, s := range l {
			if got, ok := ParseVal(kind, s); ok || !reflect.DeepEqual(got, api.Val{}) {
				t.Errorf("%q %v", s, got)
			}
		}
	}
}

// TestOtherKindsHaveNoValues: what Val tells of other Kinds is no value's text.
func TestOtherKindsHaveNoValues(t *testing.T) {
	for _, kind := range []int{math.MinInt, -1, 0, 3, 9, math.MaxInt} {
		for _, s := range []string{"null", "x", "x61", "0", "5", "-5", ""} {
			if got, ok := ParseVal(kind, s); ok || !reflect.DeepEqual(got, api.Val{}) {
				t.Errorf("%d %q %v", kind, s, got)
			}
		}
	}
}

func TestPred(t *testing.T) {
	for i, x := range []struct {
		p    api.Pred
		want string
	}{
		{yes(), "true"},
		{compare(0, api.CEq, num(5)), "id = 5"},
		{compare(0, api.CNe, num(-5)), "id != -5"},
		{compare(3, api.CLt, num(5)), "and < 5"},
		{compare(1, api.CLe, num(5)), "null <= 5"},
		{compare(2, api.CGt, raw("a")), "true > x61"},
		{compare(5, api.CGe, raw("")), "x >= x"},
		{isNull(0), "null id"},
		{isNull(1), "null null"},
		{isNull(2), "null true"},
		{pred.All(), "and()"},
		{pred.Any(), "or()"},
		{pred.All(yes()), "and(true)"},
		{pred.Any(yes(), isNull(1), compare(4, api.CEq, raw("b"))), "or(true,null null,not = x62)"},
		{pred.Not(yes()), "not(true)"},
		{pred.Not(compare(2, api.CEq, raw("x"))), "not(true = x78)"},
		{pred.Not(pred.All(pred.Any(), pred.Not(pred.All(yes())))), "not(and(or(),not(and(true))))"},
		{pred.All(slices.Repeat([]api.Pred{yes()}, 8)...), "and(true,true,true,true,true,true,true,true)"},
	} {
		if got := Pred(schema(), x.p); got != x.want {
			t.Error(i, got)
		}
		if got, ok := ParsePred(schema(), x.want); !ok || !pred.Same(got, x.p) {
			t.Error(i, got, ok)
		}
	}
}

func TestPredOfOthersIsNothing(t *testing.T) {
	loop := make([]api.Pred, 1)
	loop[0] = api.Pred{Kind: api.PNot, List: loop}
	for i, p := range []api.Pred{{}, {Kind: api.PNot}, compare(9, api.CEq, num(1)), compare(0, api.CEq, none(api.KInt)), compare(0, 7, num(1)), isNull(-1), pred.All(slices.Repeat([]api.Pred{yes()}, 9)...), loop[0]} {
		if got := Pred(schema(), p); got != "" {
			t.Error(i, got)
		}
	}
}

func TestParsePredRefuses(t *testing.T) {
	for _, s := range []string{
		"", " ", "true ", " true", "True", "truetrue", "false", "id", "id=5", "id =5", "id= 5", "id  = 5", "id = 5 ", "id = 05", "id = x05",
		"id == 5", "id <> 5", "id = null", "true = 5", "no = 5", "null", "null ", "null  id", "null no", "null id ", "null id,", "nullid",
		"and", "and(", "and)", "and(true", "and(true,", "and(true,)", "and(,true)", "and(true true)", "and(true, true)", "and (true)", "and()true", "and())",
		"not()", "not(true,true)", "not true", "nor(true)", "(true)", "()", "and(true))", "or(id = 5", "or(id = 5;true)", "id = 5)", "x = x616", "x = x6G",
		"and(true,true,true,true,true,true,true,true,true)", "not(not(not(not(not(true)))))", strings.Repeat("not(", 100000), "null null null", "true true",
		"id =", "id = ", "id", "id ", "true(", "xor()", "x(true)", "(", ")", ",", "and(true)\n", "id = 9223372036854775808",
	} {
		if got, ok := ParsePred(schema(), s); ok || !reflect.DeepEqual(got, api.Pred{}) {
			t.Errorf("%q %v", s, got)
		}
	}
	if p, ok := ParsePred(schema(), "not(not(not(not(true))))"); !ok || p.Kind != api.PNot {
		t.Error("5 deep")
	}
	ParsePred(api.Schema{}, "id = 5")
}

func some(rnd *rand.Rand, n int) api.Pred {
	kinds := 6
	if n == 1 {
		kinds = 3
	}
	switch 1 + rnd.Intn(kinds) {
	case api.PCmp:
		col := rnd.Intn(6)
		v := num(int64(rnd.Intn(2000) - 1000))
		if schema().Cols[col].Kind == api.KBytes {
			b := make([]byte, rnd.Intn(4))
			rnd.Read(b)
			v = raw(string(b))
		}
		return compare(col, 1+rnd.Intn(6), v)
	case api.PNull:
		return isNull(rnd.Intn(6))
	case api.PNot:
		return pred.Not(some(rnd, n-1))
	case api.PAnd, api.POr:
		p := api.Pred{Kind: api.PAnd + rnd.Intn(2)}
		for range rnd.Intn(4) {
			p.List = append(p.List, some(rnd, n-1))
		}
		return p
	}
	return yes()
}

// TestAnyPredAndAnyText: W5.
func TestAnyPredAndAnyText(t *testing.T) {
	rnd := rand.New(rand.NewSource(25))
	read := 0
	for range 20000 {
		p := some(rnd, 5)
		if !pred.Ok(schema(), p) {
			continue
		}
		s := Pred(schema(), p)
		if got, ok := ParsePred(schema(), s); !ok || !pred.Same(got, p) {
			t.Fatal(s)
		}
		b := []byte(s)
		i := rnd.Intn(len(b))
		switch rnd.Intn(3) {
		case 0:
			b[i] = "and(),x0=! "[rnd.Intn(11)]
		case 1:
			b = slices.Delete(b, i, i+1)
		case 2:
			b = slices.Insert(b, i, b[rnd.Intn(len(b))])
		}
		if p, ok := ParsePred(schema(), string(b)); ok {
			read++
			if Pred(schema(), p) != string(b) {
				t.Fatalf("%q is read as %v", b, p)
			}
		}
	}
	if read == 0 {
		t.Error("none was read")
	}
}
