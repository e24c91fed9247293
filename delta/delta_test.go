package delta_test

import (
	"fmt"
	"math"
	"math/big"
	"slices"
	"testing"

	"gauger/api"
	"gauger/delta"
)

// of is Of with the expected groups, held against the twin too.
func of(t testing.TB, p api.Plan, view int, was, is []api.Value, want ...api.Group) {
	t.Helper()
	if list := delta.Of(p, view, was, is); !same(list, want) {
		t.Fatalf("Of(%+v, %d, %+v, %+v) = %+v; want %+v", p, view, was, is, list, want)
	}
	if other := twin(p, view, change(was, is)); !same(other, want) {
		t.Fatalf("the twin tells otherwise of %+v, %d, %+v, %+v: %+v; want %+v", p, view, was, is, other, want)
	}
}

// all is View with the expected groups, held against the twin too.
func all(t testing.TB, p api.Plan, view int, rows [][]api.Value, want ...api.Group) {
	t.Helper()
	if list := delta.View(p, view, rows); !same(list, want) {
		t.Fatalf("View(%+v, %d, %+v) = %+v; want %+v", p, view, rows, list, want)
	}
	if other := twin(p, view, come(rows...)); !same(other, want) {
		t.Fatalf("the twin tells otherwise of %+v, %d, %+v: %+v; want %+v", p, view, rows, other, want)
	}
}

// group is one of a value, with numbers of 64 bits.
func group(v api.Value, count int, sums ...int) api.Group {
	numbers := []*big.Int{big.NewInt(int64(count))}
	for _, n := range sums {
		numbers = append(numbers, big.NewInt(int64(n)))
	}
	return api.Group{Key: key(v), Total: folded(numbers...)}
}

// The chapter's example, its group's key and numbers written out.
func TestExample(t *testing.T) {
	p := api.Plan{Tables: []api.Table{{Cols: []int{api.Int, api.Int}}}, Views: []api.View{{By: 1, Sums: []int{0}}}}
	want := api.Group{Key: "\x01\x80\x00\x00\x00\x00\x00\x00\x01", Total: api.Total{Count: api.Wide{Lo: 1}, Sums: []api.Wide{{Lo: 5}}}}
	of(t, p, 0, nil, row(5, 1), want)
	all(t, p, 0, [][]api.Value{row(5, 1)}, want)
	gone := api.Group{Key: want.Key, Total: api.Total{Count: api.Wide{Hi: -1, Lo: math.MaxUint64}, Sums: []api.Wide{{Hi: -1, Lo: math.MaxUint64 - 4}}}}
	of(t, p, 0, row(5, 1), nil, gone)
	if turned := delta.Turn(want.Total); !sameTotal(turned, gone.Total) {
		t.Errorf("Turn(%+v) = %+v; want %+v", want.Total, turned, gone.Total)
	}
}

// P18.1: a row that comes, one that goes, one that changes within its group, one that goes over to another group, in views with two, one and no sums, by columns of texts and of numbers.
func TestOfByHand(t *testing.T) {
	p := shop()
	of(t, p, 0, nil, row(1, "a", 5, -7), group(text("a"), 1, 5, -7))
	of(t, p, 0, row(1, "a", 5, -7), nil, group(text("a"), -1, -5, 7))
	of(t, p, 0, row(1, "a", 5, -7), row(1, "a", 8, -7), group(text("a"), 0, 3, 0))
	of(t, p, 0, row(1, "a", 5, -7), row(1, "a", 5, 4), group(text("a"), 0, 0, 11))
	of(t, p, 0, row(1, "a", 5, -7), row(1, "a", -7, 5), group(text("a"), 0, -12, 12))
	of(t, p, 0, row(1, "a", 5, -7), row(1, "b", 6, 0), group(text("a"), -1, -5, 7), group(text("b"), 1, 6, 0))
	of(t, p, 0, row(1, "b", 5, -7), row(1, "a", 6, 0), group(text("a"), 1, 6, 0), group(text("b"), -1, -5, 7))
	of(t, p, 1, nil, row(1, "a", 5, -7), group(num(1), 1, 1))
	of(t, p, 1, row(1, "a", 5, -7), nil, group(num(1), -1, -1))
	of(t, p, 1, row(4, "a", 5, -7), row(-3, "a", 5, -7), group(num(-3), 1, -3), group(num(4), -1, -4))
	of(t, p, 2, nil, row("x", 9), group(text("x"), 1))
	of(t, p, 2, row("x", 9), nil, group(text("x"), -1))
	of(t, p, 2, row("x", 9), row("y", 9), group(text("x"), -1), group(text("y"), 1))
	of(t, p, 3, row(1, "a", 5, -7), row(2, "b", 6, -7), group(num(-7), 0, 1))
	of(t, p, 3, row(1, "a", 5, -7), row(2, "b", 6, 7), group(num(-7), -1, -5), group(num(7), 1, 6))
}

// P18.1: a group of which a row with nothing but zeros comes, or goes, has that row's Count added.
func TestOfZeros(t *testing.T) {
	p := shop()
	of(t, p, 0, nil, row(0, "", 0, 0), group(text(""), 1, 0, 0))
	of(t, p, 0, row(0, "", 0, 0), nil, group(text(""), -1, 0, 0))
	of(t, p, 1, nil, row(0, "", 0, 0), group(num(0), 1, 0))
	of(t, p, 2, nil, row("", 0), group(text(""), 1))
	of(t, p, 3, row(0, "", 0, 0), row(0, "", 0, 1), group(num(0), -1, 0), group(num(1), 1, 0))
}

// P18.1: a change that adds nothing: the same row, and rows that differ in columns alone that the view neither groups by nor sums; any other column tells.
func TestOfAddsNothing(t *testing.T) {
	p := shop()
	was := row(1, "a", 5, -7)
	for view := range p.Views {
		of(t, p, view, was, slices.Clone(was))
		of(t, p, view, row("x", 9), row("x", 9))
	}
	of(t, p, 0, was, row(2, "a", 5, -7))
	of(t, p, 1, was, row(1, "b", 6, 7))
	of(t, p, 2, row("x", 9), row("x", -9))
	of(t, p, 3, was, row(2, "b", 5, -7))
	for _, p := range each() {
		cols := p.Tables[0].Cols
		for view, v := range p.Views {
			for at, kind := range cols {
				was := rows(cols)[1]
				is := slices.Clone(was)
				is[at] = values(kind)[5]
				list := delta.Of(p, view, was, is)
				tells := at == v.By || slices.Contains(v.Sums, at)
				if tells != (len(list) > 0) {
					t.Fatalf("Of(%+v, %d, %+v, %+v) = %+v", p, view, was, is, list)
				}
			}
		}
	}
}

// P18.1: each was with each is, rows and what is none, of each list of columns, by each of them, with each list of sums.
func TestOfEach(t *testing.T) {
	for _, p := range each() {
		cols := p.Tables[0].Cols
		list := append(rows(cols), nil, others(cols)[6])
		for view := range p.Views {
			for _, was := range list {
				for _, is := range list {
					of(t, p, view, was, is, twin(p, view, change(was, is))...)
				}
			}
		}
	}
}

// P18.1: what is no row of the view's table counts as none, be it was, is, or both; so it does among the rows of P18.2.
func TestNoRows(t *testing.T) {
	for _, p := range each() {
		cols := p.Tables[0].Cols
		good := rows(cols)[7]
		for view, v := range p.Views {
			comes := group(good[v.By], 1, ints(good, v.Sums)...)
			goes := api.Group{Key: comes.Key, Total: twin(p, view, change(good, nil))[0].Total}
			for _, none := range others(cols) {
				of(t, p, view, none, good, comes)
				of(t, p, view, good, none, goes)
				of(t, p, view, none, none)
				of(t, p, view, nil, none)
				all(t, p, view, [][]api.Value{none})
				all(t, p, view, [][]api.Value{none, good, none}, comes)
			}
			all(t, p, view, others(cols))
		}
	}
}

// ints is a row's numbers in columns.
func ints(r []api.Value, cols []int) []int {
	var list []int
	for _, at := range cols {
		list = append(list, r[at].N)
	}
	return list
}

// P18.1, P18.2: rows of another table count as none, but for tables of the same columns, whose rows are the same.
func TestOtherTables(t *testing.T) {
	p := shop()
	first, second, third := row(1, "a", 5, -7), row("x", 9), row("z")
	for _, view := range []int{0, 1, 3} {
		of(t, p, view, second, third)
		if list := delta.Of(p, view, second, first); !same(list, delta.Of(p, view, nil, first)) || len(list) != 1 {
			t.Errorf("Of view %d with a row of another table is %+v", view, list)
		}
	}
	of(t, p, 2, first, third)
	of(t, p, 2, first, second, group(text("x"), 1))
	of(t, p, 2, second, third, group(text("x"), -1))
	mixed := [][]api.Value{third, first, second, first, second, second, third}
	all(t, p, 0, mixed, group(text("a"), 2, 10, -14))
	all(t, p, 1, mixed, group(num(1), 2, 2))
	all(t, p, 2, mixed, group(text("x"), 3))
	all(t, p, 3, mixed, group(num(-7), 2, 10))
	twice := api.Plan{Tables: slices.Repeat([]api.Table{{Cols: []int{api.Text, api.Int}}}, 3), Views: []api.View{{Table: 2, By: 0, Sums: []int{1}}, {Table: 1, By: 1}}}
	of(t, twice, 0, nil, second, group(text("x"), 1, 9))
	of(t, twice, 1, nil, second, group(num(9), 1))
}

// P18.1, P18.2: a view below 0, the last one, and views beyond it; a plan without views.
func TestNoView(t *testing.T) {
	for _, p := range []api.Plan{shop(), {Tables: shop().Tables}, {Tables: shop().Tables, Views: shop().Views[:1]}} {
		numbers := []int{math.MinInt, math.MinInt + 1, -1 << 32, -256, math.MaxInt, 1 << 32, 256}
		for n := -8; n < 12; n++ {
			numbers = append(numbers, n)
		}
		for _, view := range numbers {
			if view >= 0 && view < len(p.Views) {
				continue
			}
			for table := range p.Tables {
				r := rows(p.Tables[table].Cols)[5]
				of(t, p, view, nil, r)
				of(t, p, view, r, nil)
				of(t, p, view, nil, nil)
				all(t, p, view, [][]api.Value{r, r})
				all(t, p, view, nil)
			}
		}
	}
	p := shop()
	of(t, p, 3, nil, row(1, "a", 5, -7), group(num(-7), 1, 5))
	all(t, p, 3, [][]api.Value{row(1, "a", 5, -7)}, group(num(-7), 1, 5))
}

// P18.1: groups stand by rising keys, whichever of was and is comes first: numbers below 0 ahead of the others, texts byte by byte.
func TestOfOrder(t *testing.T) {
	rising := map[int][]api.Value{
		api.Int:  {num(math.MinInt), num(-256), num(-1), num(0), num(1), num(255), num(256), num(math.MaxInt)},
		api.Text: {text(""), text("\x00"), text("A"), text("a"), text("a\x00"), text("aa"), text("b"), text("\x80"), text("\xff")},
	}
	for kind, list := range rising {
		p := api.Plan{Tables: []api.Table{{Cols: []int{kind}}}, Views: []api.View{{}}}
		for i, a := range list {
			for _, b := range list[i+1:] {
				of(t, p, 0, []api.Value{a}, []api.Value{b}, group(a, -1), group(b, 1))
				of(t, p, 0, []api.Value{b}, []api.Value{a}, group(a, 1), group(b, -1))
				all(t, p, 0, [][]api.Value{{b}, {a}, {b}}, group(a, 1), group(b, 2))
			}
		}
	}
}

// P18.1: sums of the least and the greatest number of 64 bits, and one less the other, which is beyond 64 bits, written out.
func TestOfEnds(t *testing.T) {
	p := shop()
	least, most := row(1, "a", math.MinInt, math.MaxInt), row(1, "a", math.MaxInt, math.MinInt)
	at := func(count api.Wide, sums ...api.Wide) api.Group {
		return api.Group{Key: key(text("a")), Total: api.Total{Count: count, Sums: sums}}
	}
	one, none := api.Wide{Lo: 1}, api.Wide{Hi: -1, Lo: math.MaxUint64}
	of(t, p, 0, nil, least, at(one, api.Wide{Hi: -1, Lo: 1 << 63}, api.Wide{Lo: math.MaxInt}))
	of(t, p, 0, least, nil, at(none, api.Wide{Lo: 1 << 63}, api.Wide{Hi: -1, Lo: 1<<63 + 1}))
	of(t, p, 0, least, most, at(api.Wide{}, api.Wide{Lo: math.MaxUint64}, api.Wide{Hi: -1, Lo: 1}))
	of(t, p, 0, most, least, at(api.Wide{}, api.Wide{Hi: -1, Lo: 1}, api.Wide{Lo: math.MaxUint64}))
	of(t, p, 0, row(1, "a", -1, 0), row(1, "a", math.MaxInt, 0), at(api.Wide{}, api.Wide{Lo: 1 << 63}, api.Wide{}))
	of(t, p, 0, row(1, "a", 1, 0), row(1, "a", math.MinInt, 0), at(api.Wide{}, api.Wide{Hi: -1, Lo: 1<<63 - 1}, api.Wide{}))
	of(t, p, 0, row(1, "a", math.MinInt, 7), row(1, "a", math.MinInt, 7))
	all(t, p, 0, [][]api.Value{least, least, most}, at(api.Wide{Lo: 3}, api.Wide{Hi: -1, Lo: math.MaxUint64 - 1<<63}, api.Wide{Lo: 1<<63 - 2}))
	all(t, p, 0, [][]api.Value{least, least, least}, at(api.Wide{Lo: 3}, api.Wide{Hi: -2, Lo: 1 << 63}, api.Wide{Hi: 1, Lo: 1<<63 - 3}))
	all(t, p, 0, [][]api.Value{least, most}, at(api.Wide{Lo: 2}, none, none))
}

// turn is Turn with the expected total, and the way back.
func turn(t *testing.T, a, want api.Total) {
	t.Helper()
	if got := delta.Turn(a); !sameTotal(got, want) {
		t.Fatalf("Turn(%+v) = %+v; want %+v", a, got, want)
	}
	if back := delta.Turn(delta.Turn(a)); !sameTotal(back, a) {
		t.Fatalf("Turn of Turn(%+v) = %+v", a, back)
	}
}

// P18.1: Turn of nothing, of the ends of 64 and of 128 bits, by hand.
func TestTurnByHand(t *testing.T) {
	turn(t, api.Total{}, api.Total{})
	turn(t, api.Total{Sums: make([]api.Wide, 5)}, api.Total{Sums: make([]api.Wide, 5)})
	for _, c := range []struct{ n, want api.Wide }{
		{api.Wide{}, api.Wide{}},
		{api.Wide{Lo: 1}, api.Wide{Hi: -1, Lo: math.MaxUint64}},
		{api.Wide{Lo: math.MaxInt}, api.Wide{Hi: -1, Lo: 1<<63 + 1}},
		{api.Wide{Lo: 1 << 63}, api.Wide{Hi: -1, Lo: 1 << 63}},
		{api.Wide{Lo: math.MaxUint64}, api.Wide{Hi: -1, Lo: 1}},
		{api.Wide{Hi: 1}, api.Wide{Hi: -1}},
		{api.Wide{Hi: 1, Lo: 1}, api.Wide{Hi: -2, Lo: math.MaxUint64}},
		{api.Wide{Hi: math.MaxInt, Lo: math.MaxUint64}, api.Wide{Hi: math.MinInt, Lo: 1}},
		// What is 2^127 more than nothing is, modulo 2^128, as much less.
		{api.Wide{Hi: math.MinInt}, api.Wide{Hi: math.MinInt}},
	} {
		for _, sums := range [][2]api.Wide{{c.n, c.want}, {c.want, c.n}} {
			a, b := sums[0], sums[1]
			turn(t, api.Total{Count: a}, api.Total{Count: b})
			turn(t, api.Total{Sums: []api.Wide{a}}, api.Total{Sums: []api.Wide{b}})
			turn(t, api.Total{Sums: []api.Wide{{}, a, {}}}, api.Total{Sums: []api.Wide{{}, b, {}}})
			turn(t, api.Total{Count: a, Sums: []api.Wide{b, a}}, api.Total{Count: b, Sums: []api.Wide{a, b}})
		}
	}
}

// P18.1: Turn of totals with no, one, two and more Sums, each number in each place.
func TestTurn(t *testing.T) {
	numbers := wides()
	for i := range numbers {
		for sums := range 9 {
			var a []api.Wide
			var want []*big.Int
			for at := range sums + 1 {
				n := numbers[(i+at*5)%len(numbers)]
				a = append(a, n)
				want = append(want, new(big.Int).Neg(number(n)))
			}
			turn(t, api.Total{Count: a[0], Sums: a[1:]}, folded(want...))
		}
	}
	many := api.Total{Sums: slices.Repeat([]api.Wide{{Lo: 1}}, 3000)}
	turn(t, many, api.Total{Sums: slices.Repeat([]api.Wide{{Hi: -1, Lo: math.MaxUint64}}, 3000)})
}

// P18.2: views of no rows, of some, of the same row several times, by hand.
func TestViewByHand(t *testing.T) {
	p := shop()
	for view := range p.Views {
		all(t, p, view, nil)
		all(t, p, view, [][]api.Value{})
		all(t, p, view, [][]api.Value{nil, {}, nil})
	}
	list := [][]api.Value{row(3, "b", 5, -7), row(1, "a", 4, 0), row(2, "b", -6, -7), row(1, "a", 4, 0), nil, row(1, "a", 4), row(1, "c", 0, 0)}
	all(t, p, 0, list, group(text("a"), 2, 8, 0), group(text("b"), 2, -1, -14), group(text("c"), 1, 0, 0))
	all(t, p, 1, list, group(num(1), 3, 3), group(num(2), 1, 2), group(num(3), 1, 3))
	all(t, p, 2, list)
	all(t, p, 3, list, group(num(-7), 2, -1), group(num(0), 3, 8))
	for n := 1; n < 300; n += 37 {
		all(t, p, 0, slices.Repeat([][]api.Value{row(1, "a", -4, 9)}, n), group(text("a"), n, -4*n, 9*n))
		all(t, p, 2, slices.Repeat([][]api.Value{row("a", 9)}, n), group(text("a"), n))
	}
}

// P18.2: groups whose sums come to 0 have rows, so that they are told.
func TestViewZeros(t *testing.T) {
	p := shop()
	all(t, p, 0, [][]api.Value{row(1, "a", 5, -5), row(2, "a", -5, 5)}, group(text("a"), 2, 0, 0))
	all(t, p, 0, [][]api.Value{row(1, "", 0, 0)}, group(text(""), 1, 0, 0))
	all(t, p, 1, [][]api.Value{row(0, "", 0, 0), row(0, "", 1, 1)}, group(num(0), 2, 0))
}

// P18.2: many rows, in one group, in few, and each in one of its own, in an order that doesn't rise; as counted by the rows' rule.
func TestViewMany(t *testing.T) {
	const size = 6007
	p := shop()
	for _, groups := range []int{1, 2, 3, 100, size} {
		var list [][]api.Value
		counts, sums, others := make([]int, groups), make([]int, groups), make([]int, groups)
		for i := range size {
			at := i * 4001 % size
			to := at % groups
			counts[to]++
			sums[to] += at - 3000
			others[to] -= at * at
			list = append(list, row(at, fmt.Sprintf("g%05d", to), at-3000, -at*at))
		}
		var want []api.Group
		for to := range groups {
			want = append(want, group(text(fmt.Sprintf("g%05d", to)), counts[to], sums[to], others[to]))
		}
		all(t, p, 0, list, want...)
		for view := 1; view < 4; view++ {
			all(t, p, view, list, twin(p, view, come(list...))...)
		}
	}
}

// P18.2: whatever the order of the rows, and whatever stands between them, the groups are the same.
func TestViewOrder(t *testing.T) {
	for _, p := range each() {
		cols := p.Tables[0].Cols
		list := slices.Concat(rows(cols), rows(cols)[3:9])
		turned := slices.Concat(slices.Clone(list), others(cols))
		slices.Reverse(turned)
		for view := range p.Views {
			want := twin(p, view, come(list...))
			all(t, p, view, list, want...)
			all(t, p, view, turned, want...)
		}
	}
}

// Rule 3: what is handed in stays as it is, the spare room of its lists too.
func TestStays(t *testing.T) {
	p, spare := shop(), shop()
	p.Tables, p.Views = p.Tables[:2], p.Views[:2]
	p.Tables[0].Cols = p.Tables[0].Cols[:3:4]
	p.Views[0].Sums = p.Views[0].Sums[:1]
	was, is := row(1, "a", 5, 6, 7), row(2, "b", 8, 9, 10)
	list := [][]api.Value{was[:3], is[:3], was[:2], is}
	total := api.Total{Count: api.Wide{Lo: 3}, Sums: []api.Wide{{Lo: 4}, {Lo: 5}, {Lo: 6}}}
	for view := range p.Views {
		if len(delta.Of(p, view, was[:3], is[:3])) != 2 || len(delta.View(p, view, list[:3])) != 2 {
			t.Fatalf("view %d has no groups", view)
		}
	}
	delta.Turn(api.Total{Count: total.Count, Sums: total.Sums[:2]})
	p.Tables, p.Views = p.Tables[:3], p.Views[:4]
	p.Tables[0].Cols = p.Tables[0].Cols[:4]
	p.Views[0].Sums = p.Views[0].Sums[:2]
	if fmt.Sprintf("%#v", p) != fmt.Sprintf("%#v", spare) {
		t.Errorf("a plan was changed to %+v", p)
	}
	if !slices.Equal(was, row(1, "a", 5, 6, 7)) || !slices.Equal(is, row(2, "b", 8, 9, 10)) || !slices.Equal(list[3], is) {
		t.Errorf("rows were changed to %+v, %+v, %+v", was, is, list)
	}
	if !sameTotal(total, api.Total{Count: api.Wide{Lo: 3}, Sums: []api.Wide{{Lo: 4}, {Lo: 5}, {Lo: 6}}}) {
		t.Errorf("a total was changed to %+v", total)
	}
}

// spoil writes into all that a list of groups has, its spare room too.
func spoil(list []api.Group) {
	for i := range list {
		list[i].Key = "spoiled"
		list[i].Total.Count.Lo = 77
		spoilSums(list[i].Total.Sums)
	}
	list = list[:cap(list)]
	clear(list)
}

// spoilSums writes into sums, and into their spare room.
func spoilSums(sums []api.Wide) {
	sums = sums[:cap(sums)]
	for i := range sums {
		sums[i] = api.Wide{Hi: 7, Lo: 7}
	}
}

// Rules 3 and 4: answers share nothing with each other, or within one, and nothing is kept from call to call.
func TestAnswersNew(t *testing.T) {
	p := shop()
	was, is := row(1, "a", 5, -7), row(2, "b", 6, 7)
	list := [][]api.Value{was, is, row(3, "a", 1, 1)}
	for view := range p.Views {
		for i, ask := range []func() []api.Group{
			func() []api.Group { return delta.Of(p, view, was, is) },
			func() []api.Group { return delta.View(p, view, list) },
		} {
			kept, other := ask(), ask()
			spoil(other)
			if again := ask(); !same(kept, again) {
				t.Fatalf("the answer %d of view %d was changed: %+v, %+v", i, view, kept, again)
			}
			for at := range kept {
				answer := ask()
				spoilSums(answer[at].Total.Sums)
				for o, g := range kept {
					if o != at && !sameTotal(g.Total, answer[o].Total) {
						t.Fatalf("the groups %d and %d of the answer %d of view %d share sums: %+v", at, o, i, view, answer)
					}
				}
			}
		}
	}
	total := api.Total{Count: api.Wide{Lo: 3}, Sums: []api.Wide{{Lo: 4}, {Lo: 5}}}
	a, b := delta.Turn(total), delta.Turn(total)
	spoilSums(a.Sums)
	if total.Sums[0].Lo != 4 || total.Sums[1].Lo != 5 || !sameTotal(b, delta.Turn(total)) {
		t.Fatalf("answers of Turn share sums: %+v, %+v", total, b)
	}
}

// P1: no call panics of plans that can't be; those have no rows.
func TestNoPlan(t *testing.T) {
	table := api.Table{Cols: []int{api.Int, api.Int}}
	with := func(v ...api.View) api.Plan { return api.Plan{Tables: []api.Table{table}, Views: v} }
	for _, p := range []api.Plan{
		{}, {Views: []api.View{{}}}, {Tables: []api.Table{{}}, Views: []api.View{{}}}, {Tables: make([]api.Table, 3), Views: make([]api.View, 4)},
		{Tables: []api.Table{{Cols: []int{0, 0}}}, Views: []api.View{{}}}, {Tables: slices.Repeat([]api.Table{table}, 4), Views: []api.View{{}}},
		{Tables: []api.Table{{Cols: []int{api.Int, api.Text}}}, Views: []api.View{{Sums: []int{1}}}}, {Tables: []api.Table{{Cols: []int{1, 1, 1, 1, 1}}}, Views: []api.View{{}}},
		with(api.View{Table: 1}), with(api.View{Table: -1}), with(api.View{By: 2}), with(api.View{By: -1}), with(api.View{By: math.MinInt}), with(api.View{Table: math.MaxInt}),
		with(api.View{Sums: []int{2}}), with(api.View{Sums: []int{-1}}), with(api.View{Sums: []int{1, 0}}), with(api.View{Sums: []int{0, 0}}), with(api.View{Sums: []int{0, 1, 2}}), with(api.View{Sums: []int{math.MaxInt}}),
		with(make([]api.View, 5)...), with(api.View{}, api.View{By: 7}),
	} {
		for _, view := range []int{math.MinInt, -1, 0, 1, 2, 3, 4, 5, math.MaxInt} {
			for n := range 7 {
				for _, r := range [][]api.Value{slices.Repeat([]api.Value{num(5)}, n), slices.Repeat([]api.Value{text("a")}, n), make([]api.Value, n)} {
					if list := slices.Concat(delta.Of(p, view, r, nil), delta.Of(p, view, nil, r), delta.View(p, view, [][]api.Value{r})); len(list) > 0 {
						t.Fatalf("%+v has, of %+v, the groups %+v", p, r, list)
					}
				}
			}
		}
	}
}
