package plan_test

import (
	"slices"
	"strings"
	"testing"

	"gauger/api"
	"gauger/node"
	"gauger/plan"
)

// isRow is the calls of a row of a table with the expected answers.
func isRow(t testing.TB, p api.Plan, table int, row []api.Value) {
	t.Helper()
	want := api.Entry{Key: code(row[0]), Val: codes(row[1:])}
	if f := plan.Fits(p, table, row); f != api.OK {
		t.Fatalf("Fits(%+v, %d, %+v) = %v", p, table, row, f)
	}
	e, f := plan.Entry(p, table, row)
	if e != want || f != api.OK {
		t.Fatalf("Entry(%+v, %d, %+v) = %+v, %v; want %+v", p, table, row, e, f, want)
	}
	for _, ghost := range []bool{false, true} {
		e.Ghost = ghost
		if back, f := plan.Row(p, table, e); !slices.Equal(back, row) || f != api.OK {
			t.Fatalf("Row(%+v, %d, %+v) = %+v, %v; want %+v", p, table, e, back, f, row)
		}
	}
	for view, v := range p.Views {
		want := ""
		if fills(p.Tables[v.Table].Cols, row) {
			want = code(row[v.By])
		}
		group(t, p, view, row, want)
	}
}

// noRow is the calls of what is no row of a table with the expected answers.
func noRow(t testing.TB, p api.Plan, table int, row []api.Value) {
	t.Helper()
	if f := plan.Fits(p, table, row); f != api.ErrArg {
		t.Fatalf("Fits(%+v, %d, %+v) = %v; want ErrArg", p, table, row, f)
	}
	if e, f := plan.Entry(p, table, row); e != (api.Entry{}) || f != api.ErrArg {
		t.Fatalf("Entry(%+v, %d, %+v) = %+v, %v; want ErrArg", p, table, row, e, f)
	}
	for view, v := range p.Views {
		if v.Table == table {
			group(t, p, view, row, "")
		}
	}
}

// noEntry is Row of an entry that is no row's, a ghost or not.
func noEntry(t testing.TB, p api.Plan, table int, e api.Entry) {
	t.Helper()
	for range 2 {
		if row, f := plan.Row(p, table, e); len(row) != 0 || f != api.ErrForm {
			t.Fatalf("Row(%+v, %d, %+v) = %+v, %v; want ErrForm", p, table, e, row, f)
		}
		e.Ghost = !e.Ghost
	}
}

// group is Group with the expected key.
func group(t testing.TB, p api.Plan, view int, row []api.Value, want string) {
	t.Helper()
	if key := plan.Group(p, view, row); key != want {
		t.Fatalf("Group(%+v, %d, %+v) = %q; want %q", p, view, row, key, want)
	}
}

// each is a plan of each list of columns, with a view by each of its columns.
func each() []api.Plan {
	var list []api.Plan
	for _, cols := range columns() {
		p := single(cols)
		for by := range cols {
			all := sums(cols)
			p.Views = append(p.Views, api.View{By: by, Sums: all[by%len(all)]})
		}
		list = append(list, p)
	}
	return list
}

// P17.2: entries and groups written out by hand.
func TestByHand(t *testing.T) {
	row := []api.Value{num(5), text("ab"), num(-1), num(256)}
	e, f := plan.Entry(three(), 0, row)
	want := api.Entry{Key: "\x01\x80\x00\x00\x00\x00\x00\x00\x05", Val: "\x02ab\x00\x00\x00\x00\x00\x02\x01\x7f\xff\xff\xff\xff\xff\xff\xff\x01\x80\x00\x00\x00\x00\x00\x01\x00"}
	if e != want || f != api.OK {
		t.Fatalf("the entry is %+v, %v; want %+v", e, f, want)
	}
	group(t, three(), 0, row, "\x02ab\x00\x00\x00\x00\x00\x02")
	group(t, three(), 1, row, "")
	group(t, three(), 2, row, "\x01\x7f\xff\xff\xff\xff\xff\xff\xff")
	group(t, three(), 3, row, "\x01\x80\x00\x00\x00\x00\x00\x00\x05")
	e, f = plan.Entry(three(), 2, []api.Value{text("")})
	if e != (api.Entry{Key: "\x02\x00\x00\x00\x00\x00\x00\x00\x00"}) || f != api.OK {
		t.Fatalf("the entry of a row of one column is %+v, %v", e, f)
	}
	back, f := plan.Row(three(), 1, api.Entry{Key: "\x02abcdefg\x07", Val: "\x01\x00\x00\x00\x00\x00\x00\x00\x00", Ghost: true})
	if !slices.Equal(back, []api.Value{text("abcdefg"), num(-1 << 63)}) || f != api.OK {
		t.Fatalf("the row is %+v, %v", back, f)
	}
}

// P17.2, P17.4: rows of each list of columns, with the least and the greatest numbers, and the longest texts, are there and back.
func TestRows(t *testing.T) {
	for _, p := range each() {
		if !plan.Good(p) {
			t.Fatalf("%+v can't be", p)
		}
		for _, row := range rows(p.Tables[0].Cols) {
			isRow(t, p, 0, row)
		}
	}
	for table, tab := range three().Tables {
		for _, row := range rows(tab.Cols) {
			isRow(t, three(), table, row)
		}
	}
}

// P17.2: rows of fewer and of more values than columns, none among them.
func TestOtherSizes(t *testing.T) {
	for _, p := range each() {
		for _, row := range rows(p.Tables[0].Cols)[:12] {
			for n := range row {
				noRow(t, p, 0, row[:n])
			}
			for _, kind := range []int{api.Int, api.Text} {
				for _, v := range values(kind) {
					noRow(t, p, 0, append(slices.Clone(row), v))
				}
			}
			noRow(t, p, 0, append(slices.Clone(row), row...))
			noRow(t, p, 0, make([]api.Value, len(row)))
			noRow(t, p, 0, make([]api.Value, 300))
		}
		noRow(t, p, 0, nil)
	}
}

// P17.2: rows with a value of the other kind, or one that can't be, in each place.
func TestOtherValues(t *testing.T) {
	for _, p := range each() {
		for at, kind := range p.Tables[0].Cols {
			for _, v := range append(values(api.Int+api.Text-kind), impossible()...) {
				row := rows(p.Tables[0].Cols)[7]
				row[at] = v
				noRow(t, p, 0, row)
			}
		}
	}
}

// P17.2: texts at their longest, and one byte beyond.
func TestLongTexts(t *testing.T) {
	p := single([]int{api.Text, api.Text}, api.View{By: 1})
	for n := range 12 {
		s := strings.Repeat("x", n)
		ask := noRow
		if n <= 7 {
			ask = isRow
		}
		ask(t, p, 0, []api.Value{text(s), text("")})
		ask(t, p, 0, []api.Value{text("abcdefg"), text(s)})
	}
}

// P17.2: there are no rows of a table below 0, or beyond the last; nor groups of such a view.
func TestNoTable(t *testing.T) {
	for _, p := range append(each(), three(), one()) {
		row := rows(p.Tables[0].Cols)[9]
		e := api.Entry{Key: code(row[0]), Val: codes(row[1:])}
		for _, at := range numbers() {
			if at < 0 || at >= len(p.Tables) {
				noRow(t, p, at, row)
				noRow(t, p, at, nil)
				noEntry(t, p, at, e)
				noEntry(t, p, at, api.Entry{})
			}
			if at < 0 || at >= len(p.Views) {
				group(t, p, at, row, "")
				group(t, p, at, nil, "")
			}
		}
	}
}

// P17.2: rows, and entries, of another table.
func TestOtherTable(t *testing.T) {
	p := three()
	for table, tab := range p.Tables {
		for _, row := range rows(tab.Cols) {
			for other := range p.Tables {
				if other != table {
					noRow(t, p, other, row)
					noEntry(t, p, other, api.Entry{Key: code(row[0]), Val: codes(row[1:])})
				}
			}
		}
	}
	// Each list of columns, of each other one.
	for _, a := range columns() {
		for _, b := range columns() {
			if !slices.Equal(a, b) {
				p := single(b, api.View{})
				row := rows(a)[8]
				noRow(t, p, 0, row)
				noEntry(t, p, 0, api.Entry{Key: code(row[0]), Val: codes(row[1:])})
			}
		}
	}
}

// P17.2: tables of the same columns have the same rows, and each view has those of its own table alone, by its own column.
func TestSameColumns(t *testing.T) {
	cols := []int{api.Int, api.Text, api.Int}
	p := api.Plan{Tables: slices.Repeat([]api.Table{{Cols: cols}}, 3), Views: []api.View{{Table: 2, By: 0}, {Table: 0, By: 2}, {Table: 1, By: 1}, {Table: 2, By: 1}}}
	for _, row := range rows(cols) {
		for table := range 3 {
			if e, f := plan.Entry(p, table, row); e.Key != code(row[0]) || e.Val != codes(row[1:]) || e.Ghost || f != api.OK {
				t.Fatalf("Entry(%d, %+v) = %+v, %v", table, row, e, f)
			}
		}
		for view, by := range []int{0, 2, 1, 1} {
			group(t, p, view, row, code(row[by]))
		}
	}
}

// read is Row with what the twin tells.
func read(t testing.TB, p api.Plan, table int, e api.Entry) {
	t.Helper()
	row, ok := rowOf(p.Tables[table].Cols, e)
	if !ok {
		noEntry(t, p, table, e)
		return
	}
	if back, f := plan.Row(p, table, e); !slices.Equal(back, row) || f != api.OK {
		t.Fatalf("Row(%+v, %d, %+v) = %+v, %v; want %+v", p, table, e, back, f, row)
	}
	isRow(t, p, table, row)
}

// P17.2, P17.4: entries whose Key or Val has bytes more or less, at either end, or that stand in the other one.
func TestOtherBytes(t *testing.T) {
	for _, p := range each() {
		for _, row := range rows(p.Tables[0].Cols)[:8] {
			key, val := code(row[0]), codes(row[1:])
			for n := range key {
				noEntry(t, p, 0, api.Entry{Key: key[:n], Val: val})
				noEntry(t, p, 0, api.Entry{Key: key[n+1:], Val: val})
			}
			for n := range val {
				noEntry(t, p, 0, api.Entry{Key: key, Val: val[:n]})
				noEntry(t, p, 0, api.Entry{Key: key, Val: val[n+1:]})
			}
			for _, more := range []string{"\x00", "\x01", "a", key, val + "\x02", codes(row), strings.Repeat("\x00", 9), strings.Repeat(key, 50)} {
				noEntry(t, p, 0, api.Entry{Key: key + more, Val: val})
				noEntry(t, p, 0, api.Entry{Key: more + key, Val: val})
				noEntry(t, p, 0, api.Entry{Key: key, Val: val + more})
				noEntry(t, p, 0, api.Entry{Key: key, Val: more + val})
			}
			all := key + val
			for n := range len(all) + 1 {
				if n != 9 {
					noEntry(t, p, 0, api.Entry{Key: all[:n], Val: all[n:]})
				}
			}
		}
	}
}

// P17.2: each byte of an entry is each other one: a row, or none.
func TestAnyByte(t *testing.T) {
	for _, p := range each() {
		for _, row := range [][]api.Value{rows(p.Tables[0].Cols)[1], rows(p.Tables[0].Cols)[15]} {
			all := []byte(codes(row))
			for at := range all {
				was := all[at]
				for b := range 256 {
					all[at] = byte(b)
					read(t, p, 0, api.Entry{Key: string(all[:9]), Val: string(all[9:])})
				}
				all[at] = was
			}
		}
	}
}

// P17.4: each row fits a leaf, the widest too, whatever else the leaf has: layer 8's greatest fields, and three more such rows.
func TestFitsLeaf(t *testing.T) {
	for _, p := range each() {
		for _, row := range rows(p.Tables[0].Cols) {
			e, f := plan.Entry(p, 0, row)
			if f != api.OK {
				t.Fatal(f)
			}
			leaf := api.Node{Tree: 6, Stamp: 1<<31 - 1, HasHigh: true, High: strings.Repeat("\xff", 9), Right: api.MaxPages - 1, List: []api.Entry{e}}
			if !node.Fits(leaf) {
				t.Fatalf("the leaf of %+v doesn't fit", e)
			}
			if size := node.Size(leaf); size != 20+11+9*(len(row)-1) {
				t.Fatalf("the leaf of %+v has %d bytes", e, size)
			}
			page, f := node.Bytes(leaf)
			if f != api.OK {
				t.Fatal(f)
			}
			back, _ := node.Read(page)
			if r, f := plan.Row(p, 0, back.List[0]); !slices.Equal(r, row) || f != api.OK {
				t.Fatalf("the row on the page is %+v, %v; want %+v", r, f, row)
			}
		}
	}
}

// P17.4: entries stand as their rows' first values do.
func TestOrder(t *testing.T) {
	for _, kind := range []int{api.Int, api.Text} {
		var keys []string
		for _, v := range values(kind) {
			e, _ := plan.Entry(single([]int{kind, api.Int}), 0, []api.Value{v, num(len(keys))})
			keys = append(keys, e.Key)
		}
		for i, a := range values(kind) {
			for k, b := range values(kind) {
				if (keys[i] < keys[k]) != (a.N < b.N || a.S < b.S) {
					t.Errorf("the keys of %+v and %+v stand otherwise", a, b)
				}
			}
		}
	}
}

// Rule 3: rows that are handed in stay as they are, their spare room too, and answers share nothing.
func TestRowNew(t *testing.T) {
	p := three()
	row := []api.Value{num(5), text("ab"), num(-1), num(7), num(8), num(9)}
	e, _ := plan.Entry(p, 0, row[:4])
	plan.Fits(p, 0, row[:4])
	plan.Group(p, 0, row[:4])
	if !slices.Equal(row, []api.Value{num(5), text("ab"), num(-1), num(7), num(8), num(9)}) {
		t.Fatalf("the row was changed to %+v", row)
	}
	a, _ := plan.Row(p, 0, e)
	b, _ := plan.Row(p, 0, e)
	clear(a)
	_ = append(a[:1], num(3), num(3), num(3), num(3))
	if !slices.Equal(b, row[:4]) {
		t.Fatalf("two answers share a row: %+v", b)
	}
	isRow(t, p, 0, b)
}

// P1, P17.2, P17.4: whatever an entry holds, it is a row's, which is there and back, or none's.
func FuzzRow(f *testing.F) {
	for i, cols := range columns() {
		row := rows(cols)[i%36]
		f.Add(i, code(row[0]), codes(row[1:]))
	}
	f.Add(0, "", "")
	plans := each()
	f.Fuzz(func(t *testing.T, choice int, key, val string) {
		p := plans[uint(choice)%uint(len(plans))]
		read(t, p, 0, api.Entry{Key: key, Val: val})
	})
}

// P1, P17.1, P17.2: whatever a plan and a row hold, no call panics, and the plan can be, and the row is one of a table, or not, as the twin tells.
func FuzzPlan(f *testing.F) {
	f.Add([]byte{1, 1, 1, 1, 0, 0, 0, 1, 2}, 0, 0, 5, "a", []byte{1, 2})
	f.Add([]byte{3, 4, 1, 2, 1, 1, 2, 2, 1, 1, 2, 2, 0, 1, 2, 0, 3, 1, 0, 0}, 0, 1, -5, "", []byte{1, 2, 1, 1})
	f.Add([]byte{4, 5, 3}, -1, 7, 0, "12345678", []byte{3})
	f.Fuzz(func(t *testing.T, bytes []byte, table, view, n int, s string, kinds []byte) {
		p := planOf(bytes)
		good(t, "such bytes", p, isPlan(p))
		var row []api.Value
		for _, kind := range kinds {
			v := api.Value{Kind: int(kind) % 4}
			if v.Kind != api.Text {
				v.N = n
			}
			if v.Kind != api.Int {
				v.S = s
			}
			row = append(row, v)
		}
		ask(p, table, view, row, api.Entry{Key: s})
		if !isPlan(p) {
			return
		}
		for at, tab := range p.Tables {
			if fills(tab.Cols, row) {
				isRow(t, p, at, row)
			} else {
				noRow(t, p, at, row)
			}
		}
	})
}

// planOf is a plan of bytes, which may be none that can be.
func planOf(bytes []byte) api.Plan {
	next := func() int {
		if len(bytes) == 0 {
			return 0
		}
		n := int(int8(bytes[0]))
		bytes = bytes[1:]
		return n
	}
	list := func() []int {
		var all []int
		for range next() & 7 {
			all = append(all, next())
		}
		return all
	}
	var p api.Plan
	for range next() & 7 {
		p.Tables = append(p.Tables, api.Table{Cols: list()})
	}
	for range next() & 7 {
		p.Views = append(p.Views, api.View{Table: next(), By: next(), Sums: list()})
	}
	return p
}
