package plan_test

import (
	"math"
	"slices"
	"strings"
	"testing"

	"gauger/api"
	"gauger/plan"
	"gauger/wide"
)

// total is a total of numbers of 128 bits.
func total(count api.Wide, sums ...api.Wide) api.Total {
	return api.Total{Count: count, Sums: sums}
}

// small is a total of numbers of 64 bits.
func small(count int, sums ...int) api.Total {
	t := api.Total{Count: wide.Of(count)}
	for _, n := range sums {
		t.Sums = append(t.Sums, wide.Of(n))
	}
	return t
}

// sameTotal tells whether two totals have the same numbers.
func sameTotal(a, b api.Total) bool {
	return a.Count == b.Count && slices.Equal(a.Sums, b.Sums)
}

// wides is numbers of 128 bits, the ends of those of 64 and of all among them.
func wides() []api.Wide {
	return []api.Wide{
		{}, {Lo: 1}, {Hi: 1}, wide.Of(-1), wide.Of(math.MaxInt), wide.Of(math.MinInt), {Lo: 1 << 63}, {Hi: -1, Lo: 1<<63 - 1}, {Lo: math.MaxUint64},
		{Hi: -1}, {Hi: math.MaxInt, Lo: math.MaxUint64}, {Hi: math.MinInt}, {Hi: 0x0102030405060708, Lo: 0x1112131415161718}, {Hi: -0x0102030405060708, Lo: 0xF1F2F3F4F5F6F7F8},
	}
}

// totals is totals with none to two sums, each number in each place.
func totals() []api.Total {
	var list []api.Total
	all := wides()
	for i, a := range all {
		b, c := all[(i+3)%len(all)], all[(i+7)%len(all)]
		list = append(list, total(a), total(a, b), total(b, a), total(a, b, c), total(b, a, c), total(b, c, a), total(a, api.Wide{}, api.Wide{}), total(api.Wide{}, a, api.Wide{}), total(api.Wide{}, api.Wide{}, a))
	}
	return list
}

// P17.3: totals' bytes, written out by hand.
func TestTotalByHand(t *testing.T) {
	for _, c := range []struct {
		t api.Total
		s string
	}{
		{api.Total{}, strings.Repeat("\x00", 16)},
		{small(1), strings.Repeat("\x00", 15) + "\x01"},
		{small(2, -3), strings.Repeat("\x00", 15) + "\x02" + strings.Repeat("\xff", 15) + "\xfd"},
		{small(-1, 256, 0), strings.Repeat("\xff", 16) + strings.Repeat("\x00", 14) + "\x01\x00" + strings.Repeat("\x00", 16)},
		{total(api.Wide{Hi: 0x0102030405060708, Lo: 0x090A0B0C0D0E0F10}, api.Wide{Hi: 1}, api.Wide{Lo: 1 << 63}), "\x01\x02\x03\x04\x05\x06\x07\x08\x09\x0a\x0b\x0c\x0d\x0e\x0f\x10" + "\x00\x00\x00\x00\x00\x00\x00\x01\x00\x00\x00\x00\x00\x00\x00\x00" + "\x00\x00\x00\x00\x00\x00\x00\x00\x80\x00\x00\x00\x00\x00\x00\x00"},
	} {
		if s := plan.Total(c.t); s != c.s {
			t.Errorf("Total(%+v) = %q; want %q", c.t, s, c.s)
		}
		if back, e := plan.ReadTotal(c.s, len(c.t.Sums)); !sameTotal(back, c.t) || e != api.OK {
			t.Errorf("ReadTotal(%q, %d) = %+v, %v; want %+v", c.s, len(c.t.Sums), back, e, c.t)
		}
	}
}

// P17.3: totals are there and back, and read with no other number of sums.
func TestTotals(t *testing.T) {
	for _, want := range totals() {
		s := plan.Total(want)
		all := sixteen(want.Count)
		for _, n := range want.Sums {
			all += sixteen(n)
		}
		if s != all {
			t.Fatalf("Total(%+v) = %q; want %q", want, s, all)
		}
		for _, sums := range numbers() {
			if sums != len(want.Sums) {
				noTotal(t, s, sums)
				continue
			}
			if got, e := plan.ReadTotal(s, sums); !sameTotal(got, want) || e != api.OK {
				t.Fatalf("ReadTotal(%q, %d) = %+v, %v; want %+v", s, sums, got, e, want)
			}
		}
	}
}

// P17.3: a total with more sums than a view has is written, too, but none such is read.
func TestManySums(t *testing.T) {
	for n := 3; n < 10; n++ {
		many := api.Total{Count: wide.Of(-1), Sums: wides()[:n]}
		want := sixteen(many.Count)
		for _, n := range many.Sums {
			want += sixteen(n)
		}
		if s := plan.Total(many); s != want {
			t.Fatalf("Total of %d sums = %q; want %q", n, s, want)
		}
		for sums := range 12 {
			noTotal(t, want, sums)
		}
	}
}

// noTotal is ReadTotal of bytes that are none's.
func noTotal(t testing.TB, s string, sums int) {
	t.Helper()
	if got, e := plan.ReadTotal(s, sums); got.Count != (api.Wide{}) || len(got.Sums) != 0 || e != api.ErrForm {
		t.Fatalf("ReadTotal of %d bytes, %d = %+v, %v; want ErrForm", len(s), sums, got, e)
	}
}

// P17.3: fewer and more bytes than there must be, and numbers of sums below 0 and above MaxSums, of whatever bytes.
func TestReadTotalWrong(t *testing.T) {
	for size := range 100 {
		s := strings.Repeat("\x07", size)
		for _, sums := range numbers() {
			if sums < 0 || sums > 2 || size != 16*(sums+1) {
				noTotal(t, s, sums)
				continue
			}
			got, e := plan.ReadTotal(s, sums)
			if e != api.OK || len(got.Sums) != sums || plan.Total(got) != s {
				t.Fatalf("ReadTotal of %d bytes, %d = %+v, %v", size, sums, got, e)
			}
		}
	}
	// As many bytes as would do, if numbers were told without bounds, or with some of their bits.
	for _, sums := range []int{-1, 3, 4, 1 << 60, 1<<60 + 1, 1<<60 - 1, 1 << 59, -1 << 60, 1<<32 + 1, 257, 258, math.MaxInt, math.MinInt, math.MinInt + 1} {
		for _, size := range []int{0, 16, 32, 48, 64, 80, 1 << 12} {
			noTotal(t, strings.Repeat("\x00", size), sums)
		}
	}
}

// P17.3: totals of zeros, with no sums of a number below 0, and no more than MaxSums.
func TestNothing(t *testing.T) {
	for _, sums := range numbers() {
		want := []api.Wide{{}, {}}[:max(0, min(2, sums))]
		got := plan.Nothing(sums)
		if !sameTotal(got, api.Total{Sums: want}) || !plan.IsNothing(got) {
			t.Fatalf("Nothing(%d) = %+v", sums, got)
		}
	}
}

// added is Add, both ways round, with the expected total.
func added(t *testing.T, a, b, want api.Total) {
	t.Helper()
	if got := plan.Add(a, b); !sameTotal(got, want) {
		t.Fatalf("Add(%+v, %+v) = %+v; want %+v", a, b, got, want)
	}
	if got := plan.Add(b, a); !sameTotal(got, want) {
		t.Fatalf("Add(%+v, %+v) = %+v; want %+v", b, a, got, want)
	}
}

// P17.3: totals added one by one, with as many sums as the one has that has fewer, and beyond 64 bits.
func TestAdd(t *testing.T) {
	added(t, small(2, 3, 4), small(10, 20, 30), small(12, 23, 34))
	added(t, small(2, 3), small(-2, -3), small(0, 0))
	added(t, small(5), small(-6), small(-1))
	added(t, small(1, 2, 3), small(1, 2), small(2, 4))
	added(t, small(1, 2, 3), small(1), small(2))
	added(t, small(1, 2), small(1), small(2))
	added(t, small(1, 2, 3), api.Total{}, small(1))
	added(t, small(1, 2, 3, 4, 5), small(1, 1, 1, 1), small(2, 3, 4, 5))
	added(t, small(math.MaxInt, math.MinInt, -1), small(1, -1, 1), total(api.Wide{Lo: 1 << 63}, api.Wide{Hi: -1, Lo: 1<<63 - 1}, api.Wide{}))
	added(t, small(math.MaxInt, math.MinInt), small(math.MaxInt, math.MinInt), total(api.Wide{Lo: math.MaxUint64 - 1}, api.Wide{Hi: -1}))
	added(t, total(api.Wide{Lo: math.MaxUint64}, api.Wide{Hi: 4, Lo: math.MaxUint64}), small(1, 2), total(api.Wide{Hi: 1}, api.Wide{Hi: 5, Lo: 1}))
	added(t, total(api.Wide{Hi: math.MaxInt, Lo: math.MaxUint64}), small(1), total(api.Wide{Hi: math.MinInt}))
	for _, a := range totals() {
		added(t, a, plan.Nothing(len(a.Sums)), a)
		for _, b := range totals() {
			want := api.Total{Count: wide.Add(a.Count, b.Count)}
			for i := 0; i < len(a.Sums) && i < len(b.Sums); i++ {
				want.Sums = append(want.Sums, wide.Add(a.Sums[i], b.Sums[i]))
			}
			added(t, a, b, want)
		}
	}
}

// P17.3: a total is of nothing, if all its numbers are 0: the Count alone, and each sum alone, tell otherwise, in their higher bits alone, too.
func TestIsNothing(t *testing.T) {
	for sums := range 6 {
		is := api.Total{Sums: make([]api.Wide, sums)}
		if !plan.IsNothing(is) {
			t.Fatalf("IsNothing(%+v) is false", is)
		}
		for _, n := range wides()[1:] {
			if not := total(n, is.Sums...); plan.IsNothing(not) {
				t.Fatalf("IsNothing(%+v) is true", not)
			}
			for at := range sums {
				is.Sums[at] = n
				if plan.IsNothing(is) {
					t.Fatalf("IsNothing(%+v) is true", is)
				}
				is.Sums[at] = api.Wide{}
			}
		}
	}
	if !plan.IsNothing(api.Total{}) {
		t.Fatal("a total without anything isn't of nothing")
	}
}

// Rule 3: totals that are handed in stay as they are, their spare room too, and answers share nothing.
func TestTotalNew(t *testing.T) {
	a, b := small(1, 2, 3, 9), small(4, 5, 6, 9)
	a.Sums, b.Sums = a.Sums[:2], b.Sums[:1]
	sum := plan.Add(a, b)
	none := plan.Add(a, api.Total{})
	plan.Total(a)
	plan.IsNothing(b)
	clear(sum.Sums)
	_ = append(sum.Sums, wide.Of(7), wide.Of(7))
	_ = append(none.Sums, wide.Of(7))
	if !sameTotal(api.Total{Count: a.Count, Sums: a.Sums[:3]}, small(1, 2, 3, 9)) || !sameTotal(api.Total{Count: b.Count, Sums: b.Sums[:3]}, small(4, 5, 6, 9)) {
		t.Fatalf("totals were changed to %+v and %+v", a, b)
	}
	for _, sums := range []int{1, 2} {
		s := plan.Total(api.Total{Count: wide.Of(7), Sums: wides()[4 : 4+sums]})
		x, _ := plan.ReadTotal(s, sums)
		y, _ := plan.ReadTotal(s, sums)
		clear(x.Sums)
		if plan.Total(y) != s {
			t.Fatal("two answers of ReadTotal share their sums")
		}
		x, y = plan.Nothing(sums), plan.Nothing(sums)
		x.Sums[0] = wide.Of(1)
		if !plan.IsNothing(y) || !plan.IsNothing(plan.Nothing(sums)) {
			t.Fatal("two answers of Nothing share their sums")
		}
	}
}

// P1, P17.3: whatever the bytes, they are a total's, which is written so, or none's.
func FuzzTotal(f *testing.F) {
	for i, t := range totals() {
		f.Add(plan.Total(t), i%4)
		f.Add(plan.Total(t), len(t.Sums))
	}
	f.Add("", -1)
	f.Fuzz(func(t *testing.T, s string, sums int) {
		if sums < 0 || sums > 2 || len(s) != 16*(sums+1) {
			noTotal(t, s, sums)
			return
		}
		got, e := plan.ReadTotal(s, sums)
		if e != api.OK || len(got.Sums) != sums || plan.Total(got) != s || plan.IsNothing(got) != (strings.Trim(s, "\x00") == "") {
			t.Fatalf("ReadTotal(%q, %d) = %+v, %v", s, sums, got, e)
		}
	})
}
