package knot_test

import (
	"math"
	"slices"
	"testing"

	"gauger/knot"
)

// The ends of all numbers.
const (
	lowest  = math.MinInt
	highest = math.MaxInt
)

// The chapter's example.
func TestExample(t *testing.T) {
	list := edges([2]int{1, 2}, [2]int{2, 3}, [2]int{3, 1}, [2]int{2, 1})
	round(t, list, 1, 1, 2)
	round(t, list, 2, 2, 1)
	round(t, list, 3, 3, 1, 2)
	round(t, list, 4)
	anyOf(t, list, 1, true)
	victim(t, knot.Round(list, 3), 3)
	check(t, list)
}

// P14.1: edges of which none leads back: no one has a round, the first and the last one of a way neither.
func TestNoRound(t *testing.T) {
	for _, list := range [][]knot.Edge{
		edges([2]int{1, 2}),
		edges([2]int{2, 1}),
		edges([2]int{0, -1}),
		edges([2]int{1, 2}, [2]int{2, 3}, [2]int{3, 4}),
		edges([2]int{3, 4}, [2]int{2, 3}, [2]int{1, 2}),
		edges([2]int{1, 2}, [2]int{1, 3}, [2]int{2, 4}, [2]int{3, 4}, [2]int{1, 4}),
		edges([2]int{4, 3}, [2]int{4, 2}, [2]int{3, 1}, [2]int{2, 1}, [2]int{4, 1}),
		edges([2]int{5, 6}, [2]int{7, 8}),
		edges([2]int{5, 6}, [2]int{7, 6}, [2]int{5, 6}),
		edges([2]int{lowest, highest}, [2]int{highest, 0}, [2]int{lowest, 0}),
	} {
		none(t, list, 0, 9, -9, lowest, highest)
		check(t, list)
	}
}

// P14.1: one round of one, of two, of three, and of five: told from each one of it.
func TestOneRound(t *testing.T) {
	for _, ones := range [][]int{{4}, {4, 9}, {9, 4}, {1, 2, 3}, {3, 2, 1}, {5, -1, 7, 0, 3}} {
		var list []knot.Edge
		for i, from := range ones {
			list = append(list, knot.Edge{From: from, To: ones[(i+1)%len(ones)]})
		}
		for i, id := range ones {
			round(t, list, id, append(slices.Clone(ones[i:]), ones[:i]...)...)
		}
		anyOf(t, list, slices.Min(ones), true)
		check(t, list)
	}
}

// P14.1: the edge from one to itself is a round of it alone, and of the fewest edges that there can be.
func TestItself(t *testing.T) {
	list := edges([2]int{3, 3})
	round(t, list, 3, 3)
	anyOf(t, list, 3, true)
	list = edges([2]int{3, 1}, [2]int{1, 3}, [2]int{3, 3}, [2]int{1, 2}, [2]int{2, 2})
	round(t, list, 3, 3)
	round(t, list, 1, 1, 3)
	round(t, list, 2, 2)
	anyOf(t, list, 1, true)
	// Such an edge of another one makes no round shorter or longer.
	round(t, edges([2]int{1, 2}, [2]int{2, 2}, [2]int{2, 3}, [2]int{3, 1}), 1, 1, 2, 3)
	anyOf(t, edges([2]int{1, 2}, [2]int{2, 2}, [2]int{2, 3}), 2, true)
	anyOf(t, edges([2]int{0, 2}, [2]int{2, 0}, [2]int{7, 7}), 0, true)
}

// P14.1: of several rounds with the fewest edges the least one, by whichever place they first differ at; what comes behind that plays no part, nor does the order of the edges.
func TestLeastRound(t *testing.T) {
	for _, c := range []struct {
		list []knot.Edge
		want []int
	}{
		// By the second one.
		{edges([2]int{5, 3}, [2]int{3, 5}, [2]int{5, 2}, [2]int{2, 5}), []int{5, 2}},
		{edges([2]int{5, 6}, [2]int{6, 5}, [2]int{5, 7}, [2]int{7, 5}), []int{5, 6}},
		{edges([2]int{5, 10}, [2]int{10, 5}, [2]int{5, 9}, [2]int{9, 5}), []int{5, 9}},
		{edges([2]int{5, -9}, [2]int{-9, 5}, [2]int{5, -10}, [2]int{-10, 5}), []int{5, -10}},
		{edges([2]int{5, 0}, [2]int{0, 5}, [2]int{5, -1}, [2]int{-1, 5}), []int{5, -1}},
		{edges([2]int{5, 2}, [2]int{2, 9}, [2]int{9, 5}, [2]int{5, 3}, [2]int{3, 1}, [2]int{1, 5}), []int{5, 2, 9}},
		// By the third one.
		{edges([2]int{5, 2}, [2]int{2, 9}, [2]int{9, 5}, [2]int{2, 8}, [2]int{8, 5}), []int{5, 2, 8}},
		{edges([2]int{5, 2}, [2]int{2, 3}, [2]int{3, 9}, [2]int{9, 5}, [2]int{2, 4}, [2]int{4, 1}, [2]int{1, 5}), []int{5, 2, 3, 9}},
		// By the fourth one.
		{edges([2]int{5, 2}, [2]int{2, 3}, [2]int{3, 9}, [2]int{9, 5}, [2]int{3, 7}, [2]int{7, 5}), []int{5, 2, 3, 7}},
		// The least second one leads back by more edges only, or not at all.
		{edges([2]int{5, 1}, [2]int{1, 2}, [2]int{2, 5}, [2]int{5, 8}, [2]int{8, 5}), []int{5, 8}},
		{edges([2]int{5, 1}, [2]int{1, 0}, [2]int{5, 8}, [2]int{8, 5}), []int{5, 8}},
		// The least third one leads back by more edges only, or not at all.
		{edges([2]int{5, 3}, [2]int{3, 1}, [2]int{1, 2}, [2]int{2, 5}, [2]int{3, 4}, [2]int{4, 5}), []int{5, 3, 4}},
		{edges([2]int{5, 3}, [2]int{3, 1}, [2]int{3, 4}, [2]int{4, 5}), []int{5, 3, 4}},
	} {
		for range c.list {
			round(t, c.list, 5, c.want...)
			c.list = append(c.list[1:], c.list[0])
		}
		slices.Reverse(c.list)
		round(t, c.list, 5, c.want...)
		check(t, c.list)
	}
}

// P14.1: a shorter round comes first, though its ones are greater than those of a longer one.
func TestShorterRoundOfGreater(t *testing.T) {
	list := edges([2]int{5, 1}, [2]int{1, 2}, [2]int{2, 5}, [2]int{5, 90}, [2]int{90, 5})
	round(t, list, 5, 5, 90)
	round(t, list, 1, 1, 2, 5)
	round(t, list, 90, 90, 5)
	list = append(list, knot.Edge{From: 5, To: 5})
	round(t, list, 5, 5)
	round(t, list, 90, 90, 5)
	list = edges([2]int{0, -3}, [2]int{-3, -2}, [2]int{-2, -1}, [2]int{-1, 0}, [2]int{0, highest}, [2]int{highest, highest - 1}, [2]int{highest - 1, 0})
	round(t, list, 0, 0, highest, highest-1)
	round(t, list, -3, -3, -2, -1, 0)
	anyOf(t, list, -3, true)
}

// P14.1: the same edge twice, or several times, is as once.
func TestTwice(t *testing.T) {
	once := edges([2]int{4, 2}, [2]int{2, 7}, [2]int{2, 5}, [2]int{5, 4}, [2]int{7, 4}, [2]int{1, 4}, [2]int{9, 9}, [2]int{7, 3})
	for times := 2; times <= 4; times++ {
		list := slices.Repeat(once, times)
		for _, id := range []int{1, 2, 3, 4, 5, 6, 7, 8, 9} {
			round(t, list, id, knot.Round(once, id)...)
		}
		anyOf(t, list, 2, true)
		check(t, list)
	}
	none(t, edges([2]int{1, 2}, [2]int{1, 2}), 0)
	round(t, edges([2]int{1, 2}, [2]int{2, 1}, [2]int{1, 2}), 1, 1, 2)
	round(t, edges([2]int{1, 1}, [2]int{1, 1}), 1, 1)
}

// P14.1: who leads into a round, or is led to from one, or stands between two, or has no edge, has none.
func TestBesideRounds(t *testing.T) {
	list := edges([2]int{1, 2}, [2]int{2, 3}, [2]int{3, 2}, [2]int{3, 4}, [2]int{4, 5}, [2]int{5, 6}, [2]int{6, 7}, [2]int{7, 5}, [2]int{6, 8}, [2]int{0, 1})
	for _, id := range []int{0, 1, 4, 8, 9, -1} {
		round(t, list, id)
	}
	round(t, list, 2, 2, 3)
	round(t, list, 3, 3, 2)
	round(t, list, 5, 5, 6, 7)
	round(t, list, 7, 7, 5, 6)
	anyOf(t, list, 2, true)
	anyOf(t, list[3:], 5, true)
	check(t, list)
	// Two ways from one to another one aren't a round, nor is a way that comes to an edge from the other side.
	none(t, edges([2]int{1, 2}, [2]int{2, 3}, [2]int{1, 4}, [2]int{4, 3}, [2]int{1, 3}))
}

// P14.1: two rounds through one: each other one has its own, the one the shorter.
func TestTwoRoundsOfOne(t *testing.T) {
	list := edges([2]int{6, 1}, [2]int{1, 2}, [2]int{2, 6}, [2]int{6, 8}, [2]int{8, 6})
	round(t, list, 6, 6, 8)
	round(t, list, 1, 1, 2, 6)
	round(t, list, 2, 2, 6, 1)
	round(t, list, 8, 8, 6)
	anyOf(t, list, 1, true)
	none(t, without(list, 6), 6)
	round(t, without(list, 8), 6, 6, 1, 2)
	round(t, without(list, 1), 6, 6, 8)
	check(t, list)
}

// P14.1: numbers below 0, and the least and the greatest of all, are as others: none is taken for none.
func TestEndsOfNumbers(t *testing.T) {
	list := edges([2]int{lowest, highest}, [2]int{highest, lowest}, [2]int{highest, 0}, [2]int{0, lowest}, [2]int{0, -1}, [2]int{-1, 0})
	round(t, list, lowest, lowest, highest)
	round(t, list, highest, highest, lowest)
	round(t, list, 0, 0, -1)
	round(t, list, -1, -1, 0)
	anyOf(t, list, lowest, true)
	anyOf(t, without(list, lowest), -1, true)
	anyOf(t, without(without(list, lowest), -1), 0, false)
	check(t, list)
	// Of numbers that are further from one another than a number can tell the lower one is the least, too.
	round(t, edges([2]int{0, highest}, [2]int{highest, 0}, [2]int{0, lowest}, [2]int{lowest, 0}), 0, 0, lowest)
	round(t, edges([2]int{0, highest}, [2]int{highest, 0}, [2]int{0, -5}, [2]int{-5, 0}), 0, 0, -5)
	round(t, edges([2]int{lowest, lowest}), lowest, lowest)
	round(t, edges([2]int{highest, highest}), highest, highest)
	anyOf(t, edges([2]int{highest, highest}), highest, true)
	anyOf(t, edges([2]int{highest, highest}, [2]int{lowest, lowest}), lowest, true)
}

// P14.1: the least one that has a round, be it 0, below it or above; the least one that is named plays no part.
func TestAny(t *testing.T) {
	anyOf(t, edges([2]int{0, 0}), 0, true)
	anyOf(t, edges([2]int{0, 3}, [2]int{3, 0}), 0, true)
	anyOf(t, edges([2]int{3, 0}, [2]int{0, 3}), 0, true)
	anyOf(t, edges([2]int{-2, -2}), -2, true)
	anyOf(t, edges([2]int{0, 0}, [2]int{-2, -2}), -2, true)
	anyOf(t, edges([2]int{-2, -2}, [2]int{0, 0}), -2, true)
	anyOf(t, edges([2]int{5, 6}, [2]int{6, 5}), 5, true)
	anyOf(t, edges([2]int{1, 6}, [2]int{6, 5}, [2]int{5, 6}), 5, true)
	anyOf(t, edges([2]int{6, 5}, [2]int{5, 6}, [2]int{6, 1}), 5, true)
	anyOf(t, edges([2]int{-1, 0}, [2]int{0, 7}, [2]int{7, 7}), 7, true)
	anyOf(t, edges([2]int{7, 7}, [2]int{7, 0}, [2]int{0, -1}), 7, true)
	// The one is of a long round, a shorter one is of greater ones; and the other way round.
	anyOf(t, edges([2]int{8, 9}, [2]int{9, 8}, [2]int{3, 4}, [2]int{4, 5}, [2]int{5, 3}), 3, true)
	anyOf(t, edges([2]int{3, 4}, [2]int{4, 3}, [2]int{8, 9}, [2]int{9, 6}, [2]int{6, 8}), 3, true)
	// The least one of a round that is entered elsewhere.
	anyOf(t, edges([2]int{9, 8}, [2]int{8, 7}, [2]int{7, 2}, [2]int{2, 8}), 2, true)
	anyOf(t, edges([2]int{1, 9}, [2]int{9, 8}, [2]int{8, 7}, [2]int{7, 9}, [2]int{8, 0}, [2]int{1, 0}), 7, true)
}

// P14.1: the greatest of a list, wherever it stands, how often so ever; 0 of none.
func TestVictim(t *testing.T) {
	for _, c := range []struct {
		list []int
		want int
	}{
		{nil, 0}, {[]int{}, 0}, {make([]int, 0, 5), 0},
		{[]int{0}, 0}, {[]int{7}, 7}, {[]int{-7}, -7}, {[]int{lowest}, lowest}, {[]int{highest}, highest},
		{[]int{1, 2, 3}, 3}, {[]int{3, 2, 1}, 3}, {[]int{1, 3, 2}, 3}, {[]int{2, 3, 3, 1}, 3},
		{[]int{-3, -2, -1}, -1}, {[]int{-1, -2, -3}, -1}, {[]int{-2, -1, -3}, -1},
		{[]int{-5, 0, -3}, 0}, {[]int{-5, -3, 1}, 1}, {[]int{9, 10}, 10}, {[]int{10, 9}, 10},
		{[]int{lowest, highest}, highest}, {[]int{highest, lowest}, highest}, {[]int{lowest, lowest + 1}, lowest + 1}, {[]int{lowest, -1}, -1}, {[]int{-5, highest}, highest},
	} {
		victim(t, c.list, c.want)
	}
	for n := range 400 {
		list := mixed(n, n+1, 1000)
		for i := range list {
			list[i] -= 1000
		}
		victim(t, list, slices.Sorted(slices.Values(list))[n])
	}
}

// P14.2: rounds through one alone: with that taken away none is left; with another one of one of them, the others are.
func TestRoundsThroughOne(t *testing.T) {
	for _, hub := range []int{-1, 0, 3, 50, lowest, highest} {
		var list []knot.Edge
		for petal := range 6 {
			first := 100 * (petal + 1)
			list = append(list, knot.Edge{From: hub, To: first})
			for i := range petal {
				list = append(list, knot.Edge{From: first + i, To: first + i + 1})
			}
			list = append(list, knot.Edge{From: first + petal, To: hub})
		}
		list = append(list, edges([2]int{201, 301}, [2]int{200, 302}, [2]int{7, hub}, [2]int{hub, 8})...)
		round(t, list, hub, hub, 100)
		check(t, list)
		none(t, without(list, hub), hub, 7, 8)
		round(t, without(list, 100), hub, hub, 200, 201)
		round(t, without(without(list, 100), 201), hub, hub, 200, 302)
		round(t, without(without(list, 100), 200), hub, hub, 300, 301, 302)
	}
}

// P14.2: as long as there is a round, one is taken away of it: in the end none is left, and never one through who is away.
func TestTakenAwayOneByOne(t *testing.T) {
	for seed := range 40 {
		var list []knot.Edge
		for _, n := range mixed(seed, 60, 15*15) {
			list = append(list, knot.Edge{From: n/15 - 7, To: n%15 - 7})
		}
		gone := 0
		for id, has := knot.Any(list); has; id, has = knot.Any(list) {
			row := knot.Round(list, id)
			if !isRound(list, row) || row[0] != id {
				t.Fatalf("Round(%v, %d) = %v", list, id, row)
			}
			one := knot.Victim(row)
			takenAway(t, list, row, one)
			list = without(list, one)
			gone++
		}
		none(t, list, -7, 0, 7)
		if gone < 2 {
			t.Fatalf("seed %d: %d were taken away", seed, gone)
		}
	}
}

// P14.1: all pairs of ten ones, and all but those of one with itself: the least round goes to the least one.
func TestAllPairs(t *testing.T) {
	var all, others []knot.Edge
	for from := 9; from >= 0; from-- {
		for to := range 10 {
			e := knot.Edge{From: 3*from - 12, To: 3*to - 12}
			all = append(all, e)
			if from != to {
				others = append(others, e)
			}
		}
	}
	for i := range 10 {
		id := 3*i - 12
		round(t, all, id, id)
		if i > 0 {
			round(t, others, id, id, -12)
		}
		round(t, all, id+1)
	}
	round(t, others, -12, -12, -9)
	anyOf(t, all, -12, true)
	anyOf(t, others, -12, true)
	anyOf(t, without(others, -12), -9, true)
	check(t, others)
	rest := others
	for i := range 9 {
		anyOf(t, rest, 3*i-12, true)
		rest = without(rest, 3*i-12)
	}
	none(t, rest, 15)
}

// ring is a round of so many ones, each some steps behind the one ahead of it, its edges beginning with those of whom you like.
func ring(ones, step, first int) []knot.Edge {
	list := make([]knot.Edge, ones)
	for i := range list {
		from := (first + i) % ones
		list[i] = knot.Edge{From: from * step % ones, To: (from + 1) * step % ones}
	}
	return list
}

// P14.1 and P14.2: some hundred edges in one long round.
func TestLongRound(t *testing.T) {
	const ones = 401
	for _, step := range []int{1, ones - 1, 2, 57} {
		for _, first := range []int{0, 200} {
			list := ring(ones, step, first)
			want := make([]int, ones)
			for i := range want {
				want[i] = i * step % ones
			}
			for i := range want {
				round(t, list, want[i], append(slices.Clone(want[i:]), want[:i]...)...)
			}
			anyOf(t, list, 0, true)
			victim(t, knot.Round(list, 5), ones-1)
			round(t, list, ones)
			none(t, without(list, want[first]), want[first])
			anyOf(t, without(list, 0), 0, false)
		}
	}
	// A shorter way somewhere takes the ones between out of the rounds of all others, not of their own.
	list := append(ring(ones, 1, 0), knot.Edge{From: 100, To: 300})
	if got := knot.Round(list, 7); len(got) != ones-199 || !isRound(list, got) || slices.Contains(got, 200) {
		t.Fatalf("Round of 7 is %v", got)
	}
	if got := knot.Round(list, 200); len(got) != ones || !isRound(list, got) || got[0] != 200 {
		t.Fatalf("Round of 200 is %v", got)
	}
	// So many ones with rounds of two: each has the least of its neighbours.
	for i := range 400 {
		list = append(list, knot.Edge{From: i + 1, To: i})
	}
	round(t, list, 0, 0, 1)
	round(t, list, 1, 1, 0)
	round(t, list, 399, 399, 398)
	for ones := 2; ones < 30; ones += 3 {
		check(t, append(ring(ones, 1, ones/2), knot.Edge{From: ones / 3, To: ones - 1}))
	}
}

// P14.1: many rounds as short as the shortest: by each place the least one, of more of them than could be told one by one.
func TestManyLeastRounds(t *testing.T) {
	const width, depth = 12, 30
	list := []knot.Edge{}
	for i := width; i > 0; i-- {
		list = append(list, knot.Edge{From: 0, To: i}, knot.Edge{From: depth*100 + i, To: 0})
		for row := range depth {
			for j := range width {
				list = append(list, knot.Edge{From: row*100 + i, To: row*100 + 101 + j})
			}
		}
	}
	want := []int{0}
	for row := range depth + 1 {
		want = append(want, row*100+1)
	}
	round(t, list, 0, want...)
	// From one in the middle: to the end by the least ones, and from the beginning again.
	middle := append([]int{1505}, want[17:]...)
	middle = append(middle, want[:16]...)
	round(t, list, 1505, middle...)
	anyOf(t, list, 0, true)
	anyOf(t, without(list, 0), 0, false)
}

// P1: of so many edges a call that looked at all of them for each one wouldn't end.
func TestVeryMany(t *testing.T) {
	const n = 200000
	list := ring(n, 1, n/2)
	if got := knot.Round(list, n-1); len(got) != n || got[0] != n-1 || got[1] != 0 || got[n-1] != n-2 {
		t.Fatalf("a round of %d is of %d", n, len(got))
	}
	least, has := knot.Any(list)
	if least != 0 || !has {
		t.Fatalf("Any is %d, %v", least, has)
	}
	for i, e := range list {
		if e.To == 0 {
			// Now a way, from 0 on, to a round of one.
			list[i].To = n - 1
		}
	}
	least, has = knot.Any(list)
	if least != n-1 || !has || knot.Round(list, 0) != nil || len(knot.Round(list, n-1)) != 1 {
		t.Fatalf("Any is %d, %v", least, has)
	}
	least, has = knot.Any(without(list, n-1))
	if least != 0 || has {
		t.Fatalf("Any is %d, %v", least, has)
	}
}

// P1: wrong inputs: no edges, an empty list, nil, and one that no edge names.
func TestWrong(t *testing.T) {
	for _, list := range [][]knot.Edge{nil, {}, make([]knot.Edge, 0, 4), []knot.Edge{{}}[:0]} {
		none(t, list, 0, 1, -1, lowest, highest)
	}
	list := edges([2]int{1, 2}, [2]int{2, 1}, [2]int{7, 7})
	for _, id := range []int{0, 3, 6, 8, -1, -2, -7, lowest, lowest + 1, highest, 1<<32 + 1} {
		round(t, list, id)
	}
	victim(t, nil, 0)
	victim(t, []int{}, 0)
}

// Rule 1: the edge of a zero value leads from 0 to 0; what isn't there is nothing, not a list of 0.
func TestZero(t *testing.T) {
	round(t, []knot.Edge{{}}, 0, 0)
	anyOf(t, []knot.Edge{{}}, 0, true)
	if got := knot.Round(edges([2]int{0, 1}), 0); len(got) != 0 {
		t.Fatalf("Round is %v", got)
	}
}

// Rule 3: what is handed in isn't changed, its spare room neither; an answer is new memory.
func TestNothingIsKept(t *testing.T) {
	whole := edges([2]int{4, 2}, [2]int{2, 7}, [2]int{2, 5}, [2]int{5, 4}, [2]int{9, 9}, [2]int{3, 3}, [2]int{1, 2}, [2]int{2, 1})
	was := slices.Clone(whole)
	list := whole[1:6]
	first := knot.Round(list, 9)
	knot.Any(list)
	list = whole[:4]
	one := knot.Round(list, 4)
	knot.Any(list)
	if !slices.Equal(whole, was) {
		t.Fatalf("the edges are %v; they were %v", whole, was)
	}
	for _, got := range [][]int{first, one} {
		for i := range got[:cap(got)] {
			got[:cap(got)][i] = 77
		}
	}
	round(t, list, 4, 4, 2, 5)
	list[3] = knot.Edge{}
	round(t, list, 4)
	round(t, list, 0, 0)
	numbers := []int{3, 9, 1, 12, 11}
	victim(t, numbers[:3], 9)
	if !slices.Equal(numbers, []int{3, 9, 1, 12, 11}) {
		t.Fatalf("the numbers are %v", numbers)
	}
}

// Rule 4: what was asked ahead plays no part in an answer, nor does the order of the edges.
func TestAskedAgain(t *testing.T) {
	list := edges([2]int{4, 2}, [2]int{2, 7}, [2]int{2, 5}, [2]int{5, 4}, [2]int{7, 4}, [2]int{1, 4}, [2]int{9, 9}, [2]int{4, 5})
	other := edges([2]int{5, 2}, [2]int{2, 4}, [2]int{4, 1}, [2]int{1, 5})
	for range 50 {
		round(t, list, 2, 2, 5, 4)
		round(t, other, 2, 2, 4, 1, 5)
		anyOf(t, other, 1, true)
		anyOf(t, list, 2, true)
		round(t, list, 4, 4, 5)
		none(t, nil, 2, 4)
		list = append(list[3:], list[:3]...)
	}
}
