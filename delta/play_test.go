package delta_test

import (
	"math"
	"math/rand"
	"slices"
	"testing"

	"gauger/api"
	"gauger/delta"
)

// becomes has a row become another one: it holds that what rows come to, and what a change of one of them adds, together is what the changed rows come to; and that the change and the way back add nothing together. at may be no row's place: the row is comes then. What rows there are then.
func becomes(t testing.TB, p api.Plan, view int, list [][]api.Value, at int, is []api.Value) [][]api.Value {
	t.Helper()
	var was []api.Value
	changed := slices.Clone(list)
	if at >= 0 && at < len(list) {
		was = list[at]
		changed = slices.Delete(changed, at, at+1)
	}
	changed = append(changed, is)
	there, back := delta.Of(p, view, was, is), delta.Of(p, view, is, was)
	if sum, want := together(delta.View(p, view, list), there), delta.View(p, view, changed); !same(sum, want) {
		t.Fatalf("%+v, view %d, %+v: with %+v in the place of %d it is %+v; want %+v", p, view, list, is, at, sum, want)
	}
	if rest := together(there, back); len(rest) > 0 {
		t.Fatalf("%+v, view %d: from %+v to %+v and back is %+v", p, view, was, is, rest)
	}
	// The way back is the same, turned.
	for i := range there {
		there[i].Total = delta.Turn(there[i].Total)
	}
	if !same(there, back) {
		t.Fatalf("%+v, view %d: back from %+v to %+v is %+v; want %+v", p, view, is, was, back, there)
	}
	return changed
}

// P18.3: each row of a list goes, and becomes each other row; each other row comes.
func TestTogether(t *testing.T) {
	for _, p := range each() {
		cols := p.Tables[0].Cols
		list := rows(cols)
		for view := range p.Views {
			for at := -1; at < len(list); at += 2 {
				for _, is := range [][]api.Value{nil, list[0], list[5], list[16], others(cols)[8]} {
					becomes(t, p, view, list, at, is)
				}
			}
		}
	}
}

// P18.3: what rows come to, and a change that takes all of a group away, leaves none of it.
func TestLastOfGroup(t *testing.T) {
	p := shop()
	list := [][]api.Value{row(1, "a", 5, -7)}
	list = becomes(t, p, 0, list, 0, row(1, "b", 5, -7))
	all(t, p, 0, list, group(text("b"), 1, 5, -7))
	list = becomes(t, p, 0, list, 0, nil)
	all(t, p, 0, list)
	if rest := together(delta.View(p, 0, [][]api.Value{row(1, "a", 5, -7)}), delta.Of(p, 0, row(1, "a", 5, -7), nil)); len(rest) > 0 {
		t.Errorf("what a row comes to, and goes, is %+v", rest)
	}
}

// P18.3: long plays of rows that come, go and change, in few groups and in many; the groups that the changes alone come to are what the rows come to, at each step.
func TestPlay(t *testing.T) {
	for seed := range 12 {
		source := rand.New(rand.NewSource(int64(seed)))
		p := shop()
		span := []int{2, 5, 1000}[seed%3]
		made := func() []api.Value {
			switch source.Intn(8) {
			case 0:
				return nil
			case 1:
				return row(string(rune('a'+source.Intn(span)%26)), source.Intn(span))
			case 2:
				return row(source.Intn(span), string(rune('a'+source.Intn(span)%26)), math.MinInt, math.MaxInt)
			}
			return row(source.Intn(span), string(rune('a'+source.Intn(span)%26)), int(source.Uint64()), source.Intn(span)-span/2)
		}
		for view := range p.Views {
			var list [][]api.Value
			var kept []api.Group
			for range 150 {
				at, is := source.Intn(len(list)+4)-2, made()
				var was []api.Value
				if at >= 0 && at < len(list) {
					was = list[at]
				}
				kept = together(kept, delta.Of(p, view, was, is))
				list = becomes(t, p, view, list, at, is)
				if want := delta.View(p, view, list); !same(kept, want) {
					t.Fatalf("seed %d, view %d: the changes come to %+v, the rows to %+v", seed, view, kept, want)
				}
			}
		}
	}
}

// P1, P18.1 to P18.3: whatever bytes make a plan's choice and rows, and what is none, all is as the twin tells.
func FuzzPlay(f *testing.F) {
	f.Add(0, []byte{1, 2, 3, 4, 5, 6, 7, 8, 9}, 5, "ab")
	f.Add(17, []byte("some rows of some bytes, and more of them"), math.MinInt, "abcdefg")
	f.Add(-1, []byte{255, 0, 255, 0, 7}, math.MaxInt, "12345678")
	plans := append(each(), shop())
	f.Fuzz(func(t *testing.T, choice int, bytes []byte, n int, s string) {
		p := plans[uint(choice)%uint(len(plans))]
		list := rowsOf(bytes, n, s)
		for view := -1; view <= len(p.Views); view++ {
			all(t, p, view, list, twin(p, view, come(list...))...)
			for at := -1; at < min(len(list), 4); at++ {
				is := list[len(list)-1]
				becomes(t, p, view, list, at, is)
				of(t, p, view, list[max(at, 0)], is, twin(p, view, change(list[max(at, 0)], is))...)
			}
		}
	})
}

// rowsOf is at least one list of values, such as rows are, from bytes: each tells how many values are next, or which value is.
func rowsOf(bytes []byte, n int, s string) [][]api.Value {
	list := [][]api.Value{nil}
	left := 0
	for _, b := range bytes {
		if left == 0 {
			list = append(list, nil)
			left = int(b % 6)
			continue
		}
		left--
		v := []api.Value{num(int(int8(b))), num(n), num(-n), text(s), text(s[:min(len(s), int(b>>4))]), {Kind: int(b >> 4), N: n, S: s}, num(n + int(b)), text("a")}[b%8]
		list[len(list)-1] = append(list[len(list)-1], v)
	}
	return list
}

// P1, P18.1: whatever plan it is, no call panics; a total and its turn come to nothing.
func FuzzRaw(f *testing.F) {
	f.Add([]byte{1, 1, 1, 1, 0, 0, 0, 1, 2}, 0, 5, 7, uint64(1))
	f.Add([]byte{3, 4, 1, 2, 1, 1, 2, 2, 1, 1, 2, 2, 0, 1, 2, 0, 3, 1, 0, 0}, -1, -5, math.MinInt, uint64(0))
	f.Fuzz(func(t *testing.T, bytes []byte, view, n, hi int, lo uint64) {
		p := planOf(bytes)
		for size := range 6 {
			for _, v := range []api.Value{num(n), text("a"), {Kind: n}} {
				r := slices.Repeat([]api.Value{v}, size)
				delta.Of(p, view, r, nil)
				delta.Of(p, view, nil, r)
				delta.View(p, view, [][]api.Value{r, nil, r})
			}
		}
		total := api.Total{Count: api.Wide{Hi: hi, Lo: lo}, Sums: slices.Repeat([]api.Wide{{Hi: n, Lo: lo}}, len(bytes)%5)}
		if rest := together([]api.Group{{Total: total}, {Total: delta.Turn(total)}}); len(rest) > 0 {
			t.Fatalf("%+v and its turn come to %+v", total, rest)
		}
	})
}

// planOf is a plan of bytes, which may be none that can be.
func planOf(bytes []byte) api.Plan {
	next := func() int {
		if len(bytes) == 0 {
			return 0
		}
		n := int(int8(bytes[0]))
		bytes = bytes[1:]
		return n
	}
	list := func() []int {
		var all []int
		for range next() & 7 {
			all = append(all, next())
		}
		return all
	}
	var p api.Plan
	for range next() & 7 {
		p.Tables = append(p.Tables, api.Table{Cols: list()})
	}
	for range next() & 7 {
		p.Views = append(p.Views, api.View{Table: next(), By: next(), Sums: list()})
	}
	return p
}
