package plan_test

import (
	"math"
	"slices"
	"testing"

	"gauger/api"
	"gauger/plan"
)

// The chapter's example.
func TestExample(t *testing.T) {
	p := single([]int{api.Int}, api.View{})
	if !plan.Good(p) || plan.Trees(p) != 2 || plan.View(p, 0) != 1 || plan.Free(p) != 3 {
		t.Fatalf("Good %v, Trees %d, View of 0 %d, Free %d; want true, 2, 1, 3", plan.Good(p), plan.Trees(p), plan.View(p, 0), plan.Free(p))
	}
}

// good is Good with the expected answer.
func good(t testing.TB, what string, p api.Plan, want bool) {
	t.Helper()
	if plan.Good(p) != want {
		t.Fatalf("Good of %s, %+v, is %v", what, p, !want)
	}
	if isPlan(p) != want {
		t.Fatalf("the twin tells otherwise of %s, %+v", what, p)
	}
}

// P17.1: from one to three tables.
func TestGoodTables(t *testing.T) {
	for _, cols := range columns() {
		for n := range 12 {
			good(t, "so many tables", api.Plan{Tables: slices.Repeat([]api.Table{{Cols: cols}}, n)}, 1 <= n && n <= 3)
		}
	}
	good(t, "no table, and a view", api.Plan{Views: []api.View{{}}}, false)
	good(t, "one", one(), true)
	good(t, "three", three(), true)
}

// P17.1: from one to four columns, in each table.
func TestGoodColumns(t *testing.T) {
	for at := range 3 {
		for n := range 12 {
			for _, kind := range []int{api.Int, api.Text} {
				p := three()
				p.Views = nil
				p.Tables[at].Cols = slices.Repeat([]int{kind}, n)
				good(t, "so many columns", p, 1 <= n && n <= 4)
			}
		}
	}
	for _, cols := range columns() {
		good(t, "such columns", single(cols), true)
	}
}

// P17.1: a kind that is neither Int nor Text, in each column of each table.
func TestGoodKinds(t *testing.T) {
	for _, kind := range append(numbers(), 257, 258) {
		for _, table := range []int{0, 1, 2} {
			for at := range 4 {
				p := api.Plan{Tables: []api.Table{{Cols: []int{1, 2, 1, 2}}, {Cols: []int{2, 1, 2, 1}}, {Cols: []int{1, 1, 1, 1}}}}
				p.Tables[table].Cols[at] = kind
				good(t, "such a kind", p, kind == 1 || kind == 2)
			}
		}
	}
}

// P17.1: at most four views, over one table or over three.
func TestGoodViews(t *testing.T) {
	for n := range 12 {
		good(t, "so many views", single([]int{api.Int}, make([]api.View, n)...), n <= 4)
		p := three()
		p.Views = nil
		for i := range n {
			p.Views = append(p.Views, api.View{Table: i % 3})
		}
		good(t, "so many views over three", p, n <= 4)
	}
}

// P17.1: a view is over a table of the plan, by a column of just that, each of them.
func TestGoodView(t *testing.T) {
	for at := range 4 {
		for _, n := range numbers() {
			p := three()
			p.Views[at] = api.View{Table: n}
			good(t, "a view over such a table", p, 0 <= n && n <= 2)
			for table, size := range []int{4, 2, 1} {
				p.Views[at] = api.View{Table: table, By: n}
				good(t, "a view by such a column", p, 0 <= n && n < size)
			}
			p.Views[at] = api.View{Table: 0, Sums: []int{n}}
			good(t, "a view with such a sum", p, n == 0 || n == 2 || n == 3)
			p.Views[at] = api.View{Table: 1, Sums: []int{n}}
			good(t, "a view of the second table with such a sum", p, n == 1)
			p.Views[at] = api.View{Table: 2, Sums: []int{n}}
			good(t, "a view of the third table with such a sum", p, false)
		}
	}
	for _, n := range numbers() {
		good(t, "a view of a plan of one", single([]int{api.Int}, api.View{Table: n}), n == 0)
	}
}

// P17.1: sums by hand: none, one, two; three; such as don't rise; twice the same; of a text; of no column.
func TestGoodSums(t *testing.T) {
	for _, c := range []struct {
		sums []int
		want bool
	}{
		{nil, true}, {[]int{}, true}, {[]int{0}, true}, {[]int{1}, true}, {[]int{2}, false}, {[]int{3}, true},
		{[]int{0, 1}, true}, {[]int{0, 3}, true}, {[]int{1, 3}, true},
		{[]int{1, 0}, false}, {[]int{3, 0}, false}, {[]int{3, 1}, false},
		{[]int{0, 0}, false}, {[]int{1, 1}, false}, {[]int{3, 3}, false},
		{[]int{0, 2}, false}, {[]int{2, 3}, false}, {[]int{2, 2}, false},
		{[]int{0, 1, 3}, false}, {[]int{0, 0, 0}, false}, {[]int{0, 1, 3, 4}, false}, {make([]int, 300), false},
		{[]int{-1}, false}, {[]int{4}, false}, {[]int{-1, 0}, false}, {[]int{3, 4}, false}, {[]int{0, math.MaxInt}, false}, {[]int{math.MinInt, 0}, false}, {[]int{math.MinInt, math.MaxInt}, false},
	} {
		for by := range 4 {
			good(t, "such sums", single([]int{api.Int, api.Int, api.Text, api.Int}, api.View{By: by, Sums: c.sums}), c.want)
		}
	}
}

// P17.1: each list of columns with each By and all sums of up to three places, those beside the columns too.
func TestGoodEach(t *testing.T) {
	for _, cols := range columns() {
		lists := [][]int{nil}
		for i := 0; i < len(lists); i++ {
			for by := -1; by <= len(cols); by++ {
				p := single(cols, api.View{By: by, Sums: lists[i]})
				good(t, "such a view", p, isPlan(p))
			}
			for at := -1; at <= len(cols) && len(lists[i]) < 3; at++ {
				lists = append(lists, append(slices.Clone(lists[i]), at))
			}
		}
	}
}

// P17.1: what is wrong with one part isn't mended by others.
func TestGoodOneWrong(t *testing.T) {
	for i, spoil := range []func(p *api.Plan){
		func(p *api.Plan) { p.Tables = append(p.Tables, api.Table{Cols: []int{api.Int}}) },
		func(p *api.Plan) { p.Tables[0].Cols = append(p.Tables[0].Cols, api.Int) },
		func(p *api.Plan) { p.Tables[0].Cols[3] = api.Text },
		func(p *api.Plan) { p.Tables[0].Cols[0] = 0 },
		func(p *api.Plan) { p.Tables[1].Cols = p.Tables[1].Cols[:1] },
		func(p *api.Plan) { p.Tables[2].Cols = nil },
		func(p *api.Plan) { p.Tables = p.Tables[:1] },
		func(p *api.Plan) { p.Tables = nil },
		func(p *api.Plan) { p.Views = append(p.Views, api.View{}) },
		func(p *api.Plan) { p.Views[0].Table = 2 },
		func(p *api.Plan) { p.Views[1].By = 2 },
		func(p *api.Plan) { p.Views[3].Sums = []int{3, 0} },
	} {
		p := three()
		spoil(&p)
		if plan.Good(p) || isPlan(p) {
			t.Errorf("Good of what was spoiled in the way %d, %+v", i, p)
		}
	}
}

// P17.1: trees, and their roots' pages, of any numbers of tables and views.
func TestTrees(t *testing.T) {
	for tables := range 6 {
		for views := range 7 {
			p := api.Plan{Tables: make([]api.Table, tables), Views: make([]api.View, views)}
			if n := plan.Trees(p); n != tables+views {
				t.Errorf("Trees of %d and %d = %d", tables, views, n)
			}
			if n := plan.Free(p); n != tables+views+1 {
				t.Errorf("Free of %d and %d = %d", tables, views, n)
			}
			for view := -10; view < 20; view++ {
				if n := plan.View(p, view); n != tables+view {
					t.Errorf("View of %d and %d, %d = %d", tables, views, view, n)
				}
			}
			for _, view := range []int{math.MinInt, math.MinInt + 1, -1 << 40, 1 << 40, math.MaxInt - tables} {
				if n := plan.View(p, view); n != tables+view {
					t.Errorf("View of %d and %d, %d = %d", tables, views, view, n)
				}
			}
			plan.View(p, math.MaxInt)
		}
	}
	for tree := -10; tree < 300; tree++ {
		if n := plan.Root(tree); n != tree+1 {
			t.Errorf("Root(%d) = %d", tree, n)
		}
	}
	if n := plan.Root(math.MinInt); n != math.MinInt+1 {
		t.Errorf("Root of the least number = %d", n)
	}
	plan.Root(math.MaxInt)
}

// P17.1: no two trees have one page, none is the page 0, and Free is the page behind the last one.
func TestPages(t *testing.T) {
	for _, p := range []api.Plan{one(), three(), single([]int{api.Int}, make([]api.View, 4)...)} {
		var pages []int
		for table := range p.Tables {
			pages = append(pages, plan.Root(table))
		}
		for view := range p.Views {
			pages = append(pages, plan.Root(plan.View(p, view)))
		}
		for i, page := range append(pages, plan.Free(p)) {
			if page != i+1 {
				t.Errorf("of %+v the page %d is %d", p, i, page)
			}
		}
		if len(pages) != plan.Trees(p) {
			t.Errorf("of %+v Trees is %d", p, plan.Trees(p))
		}
	}
}

// views is Views with the expected numbers.
func views(t *testing.T, p api.Plan, table int, want ...int) {
	t.Helper()
	if list := plan.Views(p, table); !slices.Equal(list, want) {
		t.Fatalf("Views(%+v, %d) = %v; want %v", p, table, list, want)
	}
}

// P17.1: the views over a table: none, one, some among others, all of them; of no table none.
func TestViews(t *testing.T) {
	views(t, three(), 0, 0, 2, 3)
	views(t, three(), 1, 1)
	views(t, three(), 2)
	views(t, one(), 0)
	views(t, single([]int{api.Int}, make([]api.View, 4)...), 0, 0, 1, 2, 3)
	views(t, api.Plan{}, 0)
	for _, table := range numbers() {
		if table < 0 || table > 2 {
			views(t, three(), table)
			views(t, one(), table)
		}
	}
}

// P17.1: each choice of tables for four views.
func TestViewsEach(t *testing.T) {
	for choice := range 81 {
		p := three()
		var lists [3][]int
		for i := range p.Views {
			table := choice % 3
			choice /= 3
			p.Views[i] = api.View{Table: table}
			lists[table] = append(lists[table], i)
		}
		for table, list := range lists {
			views(t, p, table, list...)
		}
	}
}

// Rule 3: answers share nothing.
func TestViewsNew(t *testing.T) {
	p := three()
	list := plan.Views(p, 0)
	list[0] = 7
	_ = append(list[:1], 8)
	views(t, p, 0, 0, 2, 3)
}

// Rule 3: plans that are handed in stay as they are, the spare room of their lists too.
func TestPlanStays(t *testing.T) {
	p, spare := three(), three()
	p.Tables, p.Views = p.Tables[:2], p.Views[:1]
	p.Tables[0].Cols = p.Tables[0].Cols[:3]
	p.Views[0].Sums = p.Views[0].Sums[:1]
	ask(p, 0, 0, rows(p.Tables[0].Cols)[5], api.Entry{Key: "abc"})
	p.Tables, p.Views = p.Tables[:3], p.Views[:4]
	p.Tables[0].Cols = p.Tables[0].Cols[:4]
	p.Views[0].Sums = p.Views[0].Sums[:2]
	if !samePlan(p, spare) {
		t.Errorf("a plan was changed to %+v", p)
	}
}

// samePlan tells whether two plans have the same tables and views.
func samePlan(p, q api.Plan) bool {
	return slices.EqualFunc(p.Tables, q.Tables, func(a, b api.Table) bool { return slices.Equal(a.Cols, b.Cols) }) &&
		slices.EqualFunc(p.Views, q.Views, func(a, b api.View) bool {
			return a.Table == b.Table && a.By == b.By && slices.Equal(a.Sums, b.Sums)
		})
}

// ask makes each call that a plan plays a part in.
func ask(p api.Plan, table, view int, row []api.Value, e api.Entry) {
	plan.Good(p)
	plan.Trees(p)
	plan.Root(table)
	plan.View(p, view)
	plan.Free(p)
	plan.Views(p, table)
	plan.Fits(p, table, row)
	plan.Entry(p, table, row)
	plan.Row(p, table, e)
	plan.Group(p, view, row)
}

// P1: no call panics of plans that can't be, and those have no rows.
func TestNoPlan(t *testing.T) {
	for _, p := range []api.Plan{
		{}, {Tables: []api.Table{{}}}, {Tables: make([]api.Table, 3), Views: make([]api.View, 4)}, {Views: []api.View{{}}},
		{Tables: []api.Table{{}}, Views: []api.View{{}}}, single([]int{0}, api.View{}), single([]int{3, 3}), single([]int{1, 1, 1, 1, 1}, api.View{By: 4}),
		single([]int{1}, api.View{Table: 1}), single([]int{1}, api.View{Table: -1}), single([]int{1}, api.View{By: 1}), single([]int{1}, api.View{By: -1}), single([]int{1}, api.View{By: math.MinInt}),
		single([]int{1}, api.View{Sums: []int{1}}), single([]int{1}, make([]api.View, 5)...), {Tables: slices.Repeat([]api.Table{{Cols: []int{1}}}, 4)},
		single([]int{2}, api.View{Sums: []int{0}}), single([]int{1, 2}, api.View{Sums: []int{1}}),
	} {
		for _, at := range numbers() {
			for n := range 7 {
				for _, row := range [][]api.Value{slices.Repeat([]api.Value{num(5)}, n), slices.Repeat([]api.Value{text("a")}, n), make([]api.Value, n)} {
					e := api.Entry{Key: "abc"}
					if n > 0 && canBe(row[0]) {
						e = api.Entry{Key: code(row[0]), Val: codes(row[1:])}
					}
					ask(p, at, at, row, e)
					if plan.Fits(p, at, row) != api.ErrArg || plan.Group(p, at, row) != "" {
						t.Fatalf("%+v has the row %+v", p, row)
					}
				}
			}
		}
	}
}
