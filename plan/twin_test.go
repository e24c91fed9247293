package plan_test

import (
	"encoding/binary"
	"math"
	"slices"
	"strings"

	"gauger/api"
)

// What the tests hold the package against: the chapter's words, told in another way, and without the layers below.

func num(n int) api.Value { return api.Value{Kind: api.Int, N: n} }

func text(s string) api.Value { return api.Value{Kind: api.Text, S: s} }

// one is a plan of one table without any view.
func one() api.Plan {
	return api.Plan{Tables: []api.Table{{Cols: []int{api.Int}}}}
}

// three is a plan of three tables, of all numbers of columns but three, and four views, three of them over the first table, with two, one and no sums.
func three() api.Plan {
	return api.Plan{
		Tables: []api.Table{{Cols: []int{api.Int, api.Text, api.Int, api.Int}}, {Cols: []int{api.Text, api.Int}}, {Cols: []int{api.Text}}},
		Views:  []api.View{{Table: 0, By: 1, Sums: []int{0, 3}}, {Table: 1, By: 0, Sums: []int{1}}, {Table: 0, By: 2}, {Table: 0, By: 0, Sums: []int{0}}},
	}
}

// columns is each list of one to four kinds.
func columns() [][]int {
	list := [][]int{{api.Int}, {api.Text}}
	for i := 0; len(list[i]) < 4; i++ {
		list = append(list, append(slices.Clone(list[i]), api.Int), append(slices.Clone(list[i]), api.Text))
	}
	return list
}

// single is a plan of one table, with some views over it.
func single(cols []int, views ...api.View) api.Plan {
	return api.Plan{Tables: []api.Table{{Cols: cols}}, Views: views}
}

// values is values of a kind, the least, the greatest and the longest among them.
func values(kind int) []api.Value {
	if kind == api.Int {
		return []api.Value{num(0), num(math.MinInt), num(math.MaxInt), num(-1), num(1), num(0x0102030405060708)}
	}
	return []api.Value{text(""), text("abcdefg"), text("\xff\xff\xff\xff\xff\xff\xff"), text("a"), text("a\x00"), text("\x00\x00\x00\x00\x00\x00\x00")}
}

// impossible is values that have a kind, but can't be, or have no kind that there is.
func impossible() []api.Value {
	return []api.Value{
		{}, {Kind: 3}, {Kind: -1}, {Kind: 257}, {Kind: 258}, {Kind: math.MinInt}, {Kind: math.MaxInt},
		{Kind: api.Int, S: "a"}, {Kind: api.Int, N: 7, S: "\x00"}, {Kind: api.Text, N: 1}, {Kind: api.Text, N: -1, S: "a"},
		text("abcdefgh"), text("\x00\x00\x00\x00\x00\x00\x00\x00"), text(strings.Repeat("a", 265)),
	}
}

// rows is rows of columns: each value of its kind in each place, the other places going along.
func rows(cols []int) [][]api.Value {
	var list [][]api.Value
	for i := range 6 {
		for step := range 6 {
			var row []api.Value
			for at, kind := range cols {
				row = append(row, values(kind)[(i+at*step)%6])
			}
			list = append(list, row)
		}
	}
	return list
}

// numbers is numbers of tables and views, those that there are among them.
func numbers() []int {
	list := []int{math.MinInt, math.MinInt + 1, -1 << 32, -256, math.MaxInt, math.MaxInt - 1, 1 << 32, 1<<32 + 1, 256}
	for n := -6; n < 12; n++ {
		list = append(list, n)
	}
	return list
}

// canBe tells whether a value can be.
func canBe(v api.Value) bool {
	return v.Kind == 1 && v.S == "" || v.Kind == 2 && v.N == 0 && len(v.S) <= 7
}

// fills tells whether values are a row of columns. Two tables of the same columns have the same rows.
func fills(cols []int, row []api.Value) bool {
	return slices.EqualFunc(cols, row, func(kind int, v api.Value) bool { return v.Kind == kind && canBe(v) })
}

// code is the nine bytes of a value that can be.
func code(v api.Value) string {
	if v.Kind == api.Int {
		return "\x01" + string(binary.BigEndian.AppendUint64(nil, uint64(v.N)+1<<63))
	}
	return "\x02" + v.S + strings.Repeat("\x00", 7-len(v.S)) + string(rune(len(v.S)))
}

// codes is the codes of a row, one behind the other.
func codes(row []api.Value) string {
	var s string
	for _, v := range row {
		s += code(v)
	}
	return s
}

// sixteen is the bytes of a number of 128 bits.
func sixteen(n api.Wide) string {
	return string(binary.BigEndian.AppendUint64(binary.BigEndian.AppendUint64(nil, uint64(n.Hi)), n.Lo))
}

// rowOf is the row that an entry of columns must be, and whether there is one: whatever it is, it is told by its bytes alone.
func rowOf(cols []int, e api.Entry) ([]api.Value, bool) {
	if len(e.Key) != 9 || len(e.Val) != 9*(len(cols)-1) {
		return nil, false
	}
	var row []api.Value
	for at, kind := range cols {
		s := (e.Key + e.Val)[9*at : 9*at+9]
		if int(s[0]) != kind {
			return nil, false
		}
		v := num(int(binary.BigEndian.Uint64([]byte(s[1:])) - 1<<63))
		if kind == api.Text {
			v = text(s[1 : 1+min(s[8], 7)])
		}
		if code(v) != s {
			return nil, false
		}
		row = append(row, v)
	}
	return row, true
}

// isPlan tells whether a plan can be.
func isPlan(p api.Plan) bool {
	tables, views := len(p.Tables), len(p.Views)
	if tables == 0 || tables > 3 || views > 4 {
		return false
	}
	for _, t := range p.Tables {
		if !slices.ContainsFunc(columns(), func(cols []int) bool { return slices.Equal(cols, t.Cols) }) {
			return false
		}
	}
	return !slices.ContainsFunc(p.Views, func(v api.View) bool {
		if v.Table < 0 || v.Table >= tables || v.By < 0 || v.By >= len(p.Tables[v.Table].Cols) {
			return true
		}
		return !slices.ContainsFunc(sums(p.Tables[v.Table].Cols), func(list []int) bool { return slices.Equal(list, v.Sums) })
	})
}

// sums is all lists of sums that a view over a table of columns can have.
func sums(cols []int) [][]int {
	list := [][]int{nil}
	for b, kind := range cols {
		if kind != api.Int {
			continue
		}
		list = append(list, []int{b})
		for a := range b {
			if cols[a] == api.Int {
				list = append(list, []int{a, b})
			}
		}
	}
	return list
}
