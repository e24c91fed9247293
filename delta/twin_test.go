package delta_test

import (
	"encoding/binary"
	"math"
	"math/big"
	"slices"
	"strings"

	"gauger/api"
)

// What the tests hold the package against: the chapter's words, told in another way, in numbers without bounds, and without the layers below.

func num(n int) api.Value { return api.Value{Kind: api.Int, N: n} }

func text(s string) api.Value { return api.Value{Kind: api.Text, S: s} }

// row is a row of numbers and texts.
func row(parts ...any) []api.Value {
	var list []api.Value
	for _, part := range parts {
		switch v := part.(type) {
		case int:
			list = append(list, num(v))
		case string:
			list = append(list, text(v))
		}
	}
	return list
}

// key is the code of a value that can be.
func key(v api.Value) string {
	if v.Kind == api.Int {
		return "\x01" + string(binary.BigEndian.AppendUint64(nil, uint64(v.N)+1<<63))
	}
	return "\x02" + v.S + strings.Repeat("\x00", 7-len(v.S)) + string(rune(len(v.S)))
}

// canBe tells whether a value can be.
func canBe(v api.Value) bool {
	return v.Kind == 1 && v.S == "" || v.Kind == 2 && v.N == 0 && len(v.S) <= 7
}

// item is a row that comes, or, with the sign -1, one that goes.
type item struct {
	row  []api.Value
	sign int64
}

// counts tells whether an item's row is one of a view's table.
func (i item) counts(p api.Plan, view int) bool {
	if view < 0 || view >= len(p.Views) {
		return false
	}
	cols := p.Tables[p.Views[view].Table].Cols
	return slices.EqualFunc(cols, i.row, func(kind int, v api.Value) bool { return v.Kind == kind && canBe(v) })
}

// come is items of rows that come.
func come(rows ...[]api.Value) []item {
	var list []item
	for _, r := range rows {
		list = append(list, item{row: r, sign: 1})
	}
	return list
}

// change is the items of a row that becomes another one.
func change(was, is []api.Value) []item {
	return []item{{row: was, sign: -1}, {row: is, sign: 1}}
}

// twin is what items add to a view's groups together, by rising keys, but for groups to which they add nothing.
func twin(p api.Plan, view int, items []item) []api.Group {
	sums := make(ledger)
	for _, i := range items {
		if !i.counts(p, view) {
			continue
		}
		v := p.Views[view]
		numbers := []*big.Int{big.NewInt(i.sign)}
		for _, col := range v.Sums {
			numbers = append(numbers, new(big.Int).Mul(big.NewInt(i.sign), big.NewInt(int64(i.row[col].N))))
		}
		sums.add(key(i.row[v.By]), numbers)
	}
	return sums.list()
}

// together is lists of groups added, by rising keys, but for groups to which they add nothing.
func together(lists ...[]api.Group) []api.Group {
	sums := make(ledger)
	for _, g := range slices.Concat(lists...) {
		numbers := []*big.Int{number(g.Total.Count)}
		for _, n := range g.Total.Sums {
			numbers = append(numbers, number(n))
		}
		sums.add(g.Key, numbers)
	}
	return sums.list()
}

// ledger is numbers without bounds, by keys: a count, and sums.
type ledger map[string][]*big.Int

// add adds numbers to those of a key, one by one.
func (l ledger) add(key string, numbers []*big.Int) {
	for at, n := range numbers {
		if at == len(l[key]) {
			l[key] = append(l[key], new(big.Int))
		}
		l[key][at].Add(l[key][at], n)
	}
}

// list is the totals that aren't all zeros, modulo 2^128, by rising keys.
func (l ledger) list() []api.Group {
	var list []api.Group
	for k, numbers := range l {
		t := folded(numbers...)
		if t.Count != (api.Wide{}) || slices.ContainsFunc(t.Sums, func(n api.Wide) bool { return n != api.Wide{} }) {
			list = append(list, api.Group{Key: k, Total: t})
		}
	}
	slices.SortFunc(list, func(a, b api.Group) int { return strings.Compare(a.Key, b.Key) })
	return list
}

// folded is a total of numbers without bounds, each modulo 2^128.
func folded(numbers ...*big.Int) api.Total {
	var list []api.Wide
	for _, n := range numbers {
		bare := new(big.Int).Mod(n, new(big.Int).Lsh(big.NewInt(1), 128))
		bytes := bare.FillBytes(make([]byte, 16))
		list = append(list, api.Wide{Hi: int(binary.BigEndian.Uint64(bytes)), Lo: binary.BigEndian.Uint64(bytes[8:])})
	}
	return api.Total{Count: list[0], Sums: list[1:]}
}

// number is what a number of 128 bits is, without bounds.
func number(a api.Wide) *big.Int {
	n := new(big.Int).Lsh(big.NewInt(int64(a.Hi)), 64)
	return n.Add(n, new(big.Int).SetUint64(a.Lo))
}

// sameTotal tells whether two totals have the same numbers.
func sameTotal(a, b api.Total) bool {
	return a.Count == b.Count && slices.Equal(a.Sums, b.Sums)
}

// same tells whether two lists have the same groups.
func same(a, b []api.Group) bool {
	return slices.EqualFunc(a, b, func(x, y api.Group) bool { return x.Key == y.Key && sameTotal(x.Total, y.Total) })
}

// shop is a plan of three tables, and four views: of the first table by its texts with two sums, by its first numbers with one sum, that of the column itself; of the second one by its texts without sums; of the first one again, by its last numbers with the sum of others.
func shop() api.Plan {
	return api.Plan{
		Tables: []api.Table{{Cols: []int{api.Int, api.Text, api.Int, api.Int}}, {Cols: []int{api.Text, api.Int}}, {Cols: []int{api.Text}}},
		Views:  []api.View{{Table: 0, By: 1, Sums: []int{2, 3}}, {Table: 0, By: 0, Sums: []int{0}}, {Table: 1, By: 0}, {Table: 0, By: 3, Sums: []int{2}}},
	}
}

// each is a plan of each list of one to four columns with, one behind the other, views by each of the columns with each list of sums; four views a plan at most.
func each() []api.Plan {
	lists := [][]int{{api.Int}, {api.Text}}
	for i := 0; len(lists[i]) < 4; i++ {
		lists = append(lists, append(slices.Clone(lists[i]), api.Int), append(slices.Clone(lists[i]), api.Text))
	}
	var plans []api.Plan
	for _, cols := range lists {
		var views []api.View
		for by := range cols {
			for _, sums := range sumsOf(cols) {
				views = append(views, api.View{By: by, Sums: sums})
			}
		}
		for some := range slices.Chunk(views, 4) {
			plans = append(plans, api.Plan{Tables: []api.Table{{Cols: cols}}, Views: some})
		}
	}
	return plans
}

// sumsOf is all lists of sums that a view over a table of columns can have.
func sumsOf(cols []int) [][]int {
	list := [][]int{nil}
	for b, kind := range cols {
		if kind != api.Int {
			continue
		}
		list = append(list, []int{b})
		for a := range b {
			if cols[a] == api.Int {
				list = append(list, []int{a, b})
			}
		}
	}
	return list
}

// values is values of a kind, the least, the greatest and the longest among them.
func values(kind int) []api.Value {
	if kind == api.Int {
		return []api.Value{num(0), num(math.MinInt), num(math.MaxInt), num(-1), num(1), num(1 << 40)}
	}
	return []api.Value{text(""), text("abcdefg"), text("\xff\xff\xff\xff\xff\xff\xff"), text("a"), text("a\x00"), text("b")}
}

// rows is rows of columns: each value of its kind in each place, the other places going along.
func rows(cols []int) [][]api.Value {
	var list [][]api.Value
	for i := range 6 {
		for step := range 3 {
			var r []api.Value
			for at, kind := range cols {
				r = append(r, values(kind)[(i+at*step)%6])
			}
			list = append(list, r)
		}
	}
	return list
}

// others is what is no row of columns: none, fewer values and more, another kind in each place, values that can't be in each place.
func others(cols []int) [][]api.Value {
	good := rows(cols)[4]
	list := [][]api.Value{nil, {}, make([]api.Value, len(cols)), make([]api.Value, 300), slices.Concat(good, good), append(slices.Clone(good), num(7)), append(slices.Clone(good), text("a"))}
	for n := range good {
		list = append(list, good[:n])
	}
	for at, kind := range cols {
		wrong := []api.Value{num(5), {}, {Kind: 3}, {Kind: -1}, {Kind: 257}, {Kind: math.MinInt}, {Kind: api.Int, S: "a"}, {Kind: api.Int, N: 7, S: "\x00"}, {Kind: api.Text, N: 1}, text("abcdefgh")}
		if kind == api.Int {
			wrong[0] = text("a")
		}
		for _, v := range wrong {
			r := slices.Clone(good)
			r[at] = v
			list = append(list, r)
		}
	}
	return list
}

// wides is numbers of 128 bits, the ends of those of 64 and of all among them.
func wides() []api.Wide {
	return []api.Wide{
		{}, {Lo: 1}, {Hi: 1}, {Hi: -1, Lo: math.MaxUint64}, {Lo: math.MaxInt}, {Lo: 1 << 63}, {Hi: -1, Lo: 1 << 63}, {Hi: -1, Lo: 1<<63 - 1}, {Lo: math.MaxUint64}, {Hi: -1}, {Hi: -1, Lo: 1},
		{Hi: math.MaxInt, Lo: math.MaxUint64}, {Hi: math.MinInt}, {Hi: math.MinInt, Lo: 1}, {Hi: 0x0102030405060708, Lo: 0x1112131415161718}, {Hi: -0x0102030405060708, Lo: 0xF1F2F3F4F5F6F7F8},
	}
}
