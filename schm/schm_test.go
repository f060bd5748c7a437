package schm

import (
	"strings"
	"testing"

	"colonnade/api"
)

func num(n int64) api.Val          { return api.Val{Kind: api.KInt, Int: n} }
func text(s string) api.Val        { return api.Val{Kind: api.KBytes, Bytes: []byte(s)} }
func none(kind int) api.Val        { return api.Val{Kind: kind, Null: true} }
func key() api.Col                 { return api.Col{Name: "id", Kind: api.KInt} }
func cols(l ...api.Col) api.Schema { return api.Schema{Cols: l} }

func TestOk(t *testing.T) {
	many := []api.Col{key()}
	for _, name := range []string{"a", "b", "c", "d", "e"} {
		many = append(many, api.Col{Name: name, Kind: api.KBytes, Null: true})
	}
	for i, x := range []struct {
		s    api.Schema
		want bool
	}{
		{api.Schema{}, false},
		{cols(key()), true},
		{cols(many...), true},
		{cols(append(many[:6:6], api.Col{Name: "f", Kind: api.KInt})...), false},
		{cols(api.Col{Name: "id", Kind: api.KInt, Null: true}), false},
		{cols(api.Col{Name: "id", Kind: api.KBytes}), false},
		{cols(api.Col{Name: "", Kind: api.KInt}), false},
		{cols(api.Col{Name: "abcdefgh", Kind: api.KInt}), true},
		{cols(api.Col{Name: "abcdefghi", Kind: api.KInt}), false},
		{cols(api.Col{Name: "az", Kind: api.KInt}), true},
		{cols(api.Col{Name: "aB", Kind: api.KInt}), false},
		{cols(api.Col{Name: "a1", Kind: api.KInt}), false},
		{cols(api.Col{Name: "a{", Kind: api.KInt}), false},
		{cols(api.Col{Name: "a`", Kind: api.KInt}), false},
		{cols(api.Col{Name: "é", Kind: api.KInt}), false},
		{cols(key(), key()), false},
		{cols(key(), api.Col{Name: "x", Kind: api.KInt}, api.Col{Name: "x", Kind: api.KBytes}), false},
		{cols(key(), api.Col{Name: "x"}), false},
		{cols(key(), api.Col{Name: "x", Kind: 3}), false},
	} {
		if got := Ok(x.s); got != x.want {
			t.Error(i, got)
		}
	}
}

func TestFits(t *testing.T) {
	s := cols(key(), api.Col{Name: "n", Kind: api.KInt, Null: true}, api.Col{Name: "b", Kind: api.KBytes, Null: true}, api.Col{Name: "c", Kind: api.KBytes})
	for i, x := range []struct {
		row  []api.Val
		want bool
	}{
		{nil, false},
		{[]api.Val{num(1), num(2), text("x"), text("")}, true},
		{[]api.Val{num(1), none(api.KInt), none(api.KBytes), {Kind: api.KBytes}}, true},
		{[]api.Val{num(1), num(2), text("x")}, false},
		{[]api.Val{num(1), num(2), text("x"), text(""), num(1)}, false},
		{[]api.Val{none(api.KInt), num(2), text("x"), text("")}, false},
		{[]api.Val{num(1), num(2), text("x"), none(api.KBytes)}, false},
		{[]api.Val{num(1), none(api.KBytes), text("x"), text("")}, false},
		{[]api.Val{num(1), none(0), text("x"), text("")}, false},
		{[]api.Val{num(1), text("x"), text("x"), text("")}, false},
		{[]api.Val{num(1), num(2), num(3), text("")}, false},
		{[]api.Val{num(1), num(2), text(strings.Repeat("x", 64)), text("")}, true},
		{[]api.Val{num(1), num(2), text(strings.Repeat("x", 65)), text("")}, false},
		{[]api.Val{num(1), {Kind: api.KInt, Int: 1, Bytes: []byte{1}}, text("x"), text("")}, false},
		{[]api.Val{num(1), {Kind: api.KInt, Int: 1, Bytes: []byte{}}, text("x"), text("")}, true},
		{[]api.Val{num(1), num(2), {Kind: api.KBytes, Int: 1}, text("")}, false},
		{[]api.Val{num(1), {Kind: api.KInt, Null: true, Int: 1}, text("x"), text("")}, false},
		{[]api.Val{num(1), num(1), {Kind: api.KBytes, Null: true, Bytes: []byte{1}}, text("")}, false},
	} {
		if got := Fits(s, x.row); got != x.want {
			t.Error(i, got)
		}
	}
}

func TestCompare(t *testing.T) {
	for i, x := range []struct {
		a, b api.Val
		want int
	}{
		{num(1), num(2), -1},
		{num(-5), num(-5), 0},
		{num(1 << 62), num(-1 << 63), 1},
		{none(api.KInt), num(-1 << 63), -1},
		{none(api.KInt), none(api.KInt), 0},
		{num(0), none(api.KInt), 1},
		{text(""), text("a"), -1},
		{text("b"), text("ab"), 1},
		{text("ab"), text("ab"), 0},
		{text("\xff"), text("a"), 1},
		{none(api.KBytes), text(""), -1},
		{text(""), none(api.KBytes), 1},
	} {
		if got := Compare(x.a, x.b); got != x.want {
			t.Error(i, got)
		}
	}
}

func TestRows(t *testing.T) {
	a := []api.Val{num(1), text("b")}
	for i, x := range []struct {
		a, b []api.Val
		want int
	}{
		{nil, nil, 0},
		{nil, []api.Val{}, 0},
		{nil, a, -1},
		{a, a[:1], 1},
		{a, []api.Val{num(1), text("c")}, -1},
		{a, []api.Val{num(0), text("c"), num(1)}, 1},
		{a, []api.Val{num(1), text("b")}, 0},
		{a, []api.Val{num(2)}, -1},
	} {
		if got := Rows(x.a, x.b); got != x.want {
			t.Error(i, got)
		}
	}
}

func TestSame(t *testing.T) {
	rows := [][]api.Val{{num(1), text("b")}, {num(2), none(api.KBytes)}}
	for i, x := range []struct {
		a, b [][]api.Val
		want bool
	}{
		{nil, nil, true},
		{nil, [][]api.Val{}, true},
		{[][]api.Val{nil}, [][]api.Val{{}}, true},
		{nil, [][]api.Val{nil}, false},
		{rows, [][]api.Val{{num(1), text("b")}, {num(2), none(api.KBytes)}}, true},
		{rows, rows[:1], false},
		{rows, [][]api.Val{rows[1], rows[0]}, false},
		{rows, [][]api.Val{{num(1), text("b")}, {num(2), text("")}}, false},
		{rows, [][]api.Val{{num(1), text("b")}, {num(2), none(api.KInt)}}, false},
		{rows, [][]api.Val{{num(1), text("c")}, {num(2), none(api.KBytes)}}, false},
		{rows, [][]api.Val{{num(3), text("b")}, {num(2), none(api.KBytes)}}, false},
		{[][]api.Val{{text("")}}, [][]api.Val{{{Kind: api.KBytes, Bytes: []byte{}}}}, true},
		{[][]api.Val{{num(0)}}, [][]api.Val{{text("")}}, false},
	} {
		if got := Same(x.a, x.b); got != x.want {
			t.Error(i, got)
		}
	}
}
