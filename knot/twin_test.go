package knot_test

import (
	"slices"
	"testing"

	"gauger/knot"
)

// edges is edges of pairs of numbers.
func edges(pairs ...[2]int) []knot.Edge {
	var list []knot.Edge
	for _, p := range pairs {
		list = append(list, knot.Edge{From: p[0], To: p[1]})
	}
	return list
}

// named is all that some edges name, rising.
func named(list []knot.Edge) []int {
	var ids []int
	for _, e := range list {
		ids = append(ids, e.From, e.To)
	}
	slices.Sort(ids)
	return slices.Compact(ids)
}

// without is the edges that neither come from one nor lead to it.
func without(list []knot.Edge, id int) []knot.Edge {
	return slices.DeleteFunc(slices.Clone(list), func(e knot.Edge) bool { return e.From == id || e.To == id })
}

// isRound tells whether each of a row leads to the next one, and the last one to the first one.
func isRound(list []knot.Edge, row []int) bool {
	for i, from := range row {
		if !slices.Contains(list, knot.Edge{From: from, To: row[(i+1)%len(row)]}) {
			return false
		}
	}
	return len(row) > 0
}

// twinRound is Round told in another way: of each number of edges the least way to one, from each one, by those of one edge less.
func twinRound(list []knot.Edge, id int) []int {
	ways := map[int][]int{id: nil}
	for range list {
		longer := make(map[int][]int)
		for _, e := range list {
			rest, ok := ways[e.To]
			if !ok {
				continue
			}
			way := append([]int{e.From}, rest...)
			if old, ok := longer[e.From]; !ok || slices.Compare(way, old) < 0 {
				longer[e.From] = way
			}
		}
		if round, ok := longer[id]; ok {
			return round
		}
		ways = longer
	}
	return nil
}

// twinAny is Any told in another way: the first of all, rising, that has a twinRound.
func twinAny(list []knot.Edge) (int, bool) {
	for _, id := range named(list) {
		if twinRound(list, id) != nil {
			return id, true
		}
	}
	return 0, false
}

// round holds Round against an expected answer.
func round(t testing.TB, list []knot.Edge, id int, want ...int) {
	t.Helper()
	if got := knot.Round(list, id); !slices.Equal(got, want) {
		t.Fatalf("Round(%v, %d) = %v; want %v", list, id, got, want)
	}
}

// anyOf holds Any against an expected answer.
func anyOf(t testing.TB, list []knot.Edge, want int, ok bool) {
	t.Helper()
	if got, has := knot.Any(list); got != want || has != ok {
		t.Fatalf("Any(%v) = %d, %v; want %d, %v", list, got, has, want, ok)
	}
}

// none holds it that nobody has a round, of those that are named, and of some others.
func none(t testing.TB, list []knot.Edge, others ...int) {
	t.Helper()
	anyOf(t, list, 0, false)
	for _, id := range append(named(list), others...) {
		round(t, list, id)
	}
}

// victim holds Victim against an expected answer.
func victim(t testing.TB, list []int, want int) {
	t.Helper()
	if got := knot.Victim(list); got != want {
		t.Fatalf("Victim(%v) = %d; want %d", list, got, want)
	}
}

// check holds all that is answered of some edges against the twin, and each one of each round taken away.
func check(t testing.TB, list []knot.Edge) {
	t.Helper()
	least, has := twinAny(list)
	anyOf(t, list, least, has)
	for _, id := range named(list) {
		want := twinRound(list, id)
		round(t, list, id, want...)
		for _, one := range want {
			takenAway(t, list, want, one)
		}
	}
}

// takenAway holds P14.2 of one of a round.
func takenAway(t testing.TB, list []knot.Edge, row []int, one int) {
	t.Helper()
	rest := without(list, one)
	round(t, rest, one)
	if least, has := knot.Any(rest); has && least == one {
		t.Fatalf("%d has a round in %v, without its edges", one, list)
	}
	for _, id := range row {
		if got := knot.Round(rest, id); slices.Contains(got, one) {
			t.Fatalf("of %v without %d Round of %d is %v", list, one, id, got)
		}
	}
}

// rows is all rows of one and of some more of ids, shorter ones first, those of a length rising, if the ids do.
func rows(id int, ids []int, longest int) [][]int {
	all := [][]int{{id}}
	for from := 0; len(all[from]) < longest; from++ {
		for _, next := range ids {
			all = append(all, append(slices.Clone(all[from]), next))
		}
	}
	return all
}

// graphs is every choice of the edges between all pairs of ids, those from one to itself too.
func graphs(ids []int, do func(list []knot.Edge)) {
	var pairs []knot.Edge
	for _, from := range ids {
		for _, to := range ids {
			pairs = append(pairs, knot.Edge{From: from, To: to})
		}
	}
	for bits := range 1 << len(pairs) {
		var list []knot.Edge
		for i, e := range pairs {
			if bits>>i&1 == 1 {
				list = append(list, e)
			}
		}
		do(list)
	}
}

// everyGraph holds what is answered of every choice of edges against the first row, of all in their order, that is a round.
func everyGraph(t *testing.T, ids ...int) {
	told := make(map[int][][]int)
	for _, id := range ids {
		told[id] = rows(id, slices.Sorted(slices.Values(ids)), len(ids))
	}
	graphs(ids, func(list []knot.Edge) {
		least, has := 0, false
		for _, id := range slices.Sorted(slices.Values(ids)) {
			at := slices.IndexFunc(told[id], func(row []int) bool { return isRound(list, row) })
			if at < 0 {
				round(t, list, id)
				continue
			}
			if !has {
				least, has = id, true
			}
			round(t, list, id, told[id][at]...)
		}
		anyOf(t, list, least, has)
	})
}

// P14.1: every choice of edges among up to three ones, each of several sets of numbers.
func TestEveryGraphOfThree(t *testing.T) {
	for _, ids := range [][]int{{0}, {7}, {-7}, {0, 1}, {-1, 0}, {9, 10}, {0, 1, 2}, {-1, 0, 1}, {5, -5, 3}, {10, 9, 100}, {-10, -9, -100}, {lowest, 0, highest}, {lowest, lowest + 1, highest}} {
		everyGraph(t, ids...)
	}
}

// P14.1: every choice of edges among four ones.
func TestEveryGraphOfFour(t *testing.T) {
	everyGraph(t, 2, -3, 0, 11)
}

// P14.2: of every choice of edges among four ones: each round without one of it, and all, if all go through one.
func TestEveryGraphTakenAway(t *testing.T) {
	ids := []int{-4, 0, 3, 8}
	var told [][]int
	for _, id := range ids {
		told = append(told, rows(id, ids, len(ids))...)
	}
	graphs(ids, func(list []knot.Edge) {
		common, some := slices.Clone(ids), false
		for _, row := range told {
			if isRound(list, row) {
				some = true
				common = slices.DeleteFunc(common, func(id int) bool { return !slices.Contains(row, id) })
			}
		}
		for _, id := range ids {
			row := knot.Round(list, id)
			for _, one := range row {
				takenAway(t, list, row, one)
			}
		}
		if !some {
			return
		}
		for _, one := range common {
			none(t, without(list, one), ids...)
		}
	})
}

// mixed is n numbers below some bound among which there is no plain rule; others for another seed.
func mixed(seed, n, bound int) []int {
	list := make([]int, n)
	x := uint32(seed + 1)
	for i := range list {
		x = x*1664525 + 1013904223
		list[i] = int(x>>8) % bound
	}
	return list
}

// P14.1 and P14.2: few and many edges among up to thirty ones, whose numbers don't rise with their places.
func TestMixedGraphs(t *testing.T) {
	with, lone := 0, 0
	for seed := range 400 {
		ones := 5 + seed%26
		ids := mixed(seed+1000, ones, 4*ones)
		var list []knot.Edge
		for _, n := range mixed(seed, ones+seed/26*ones/8, ones*ones) {
			list = append(list, knot.Edge{From: ids[n/ones] - 2*ones, To: ids[n%ones] - 2*ones})
		}
		check(t, list)
		if _, has := knot.Any(list); has {
			with++
		} else {
			lone++
		}
	}
	if with < 100 || lone < 5 {
		t.Fatalf("%d have rounds, %d have none", with, lone)
	}
}

// P14.1: edges from lower places to higher ones have no rounds, and one edge turned has those through it.
func TestOneEdgeTurned(t *testing.T) {
	for seed := range 60 {
		ones := 6 + seed%10
		var list []knot.Edge
		for _, n := range mixed(seed, 3*ones, ones*ones) {
			// Numbers that fall where the places rise, and those that rise.
			from, to := min(n/ones, n%ones), max(n/ones, n%ones)
			if seed%2 == 0 {
				from, to = -from, -to
			}
			if from != to {
				list = append(list, knot.Edge{From: from, To: to})
			}
		}
		none(t, list, ones, -ones)
		for i, e := range list {
			list[i] = knot.Edge{From: e.To, To: e.From}
			check(t, list)
			if got := knot.Round(list, e.To); got != nil && got[1] != e.From {
				t.Fatalf("Round(%v, %d) = %v, past the edge that was turned", list, e.To, got)
			}
			none(t, without(list, e.To), ones, -ones)
			none(t, without(list, e.From), ones, -ones)
			list[i] = e
		}
	}
}

// FuzzRound holds what is answered of whatever edges against the twin.
func FuzzRound(f *testing.F) {
	f.Add([]byte{}, 0)
	f.Add([]byte{1, 2, 2, 3, 3, 1, 2, 1}, 1)
	f.Add([]byte{4, 4}, -1)
	f.Add([]byte{1, 2, 2, 1, 1, 1, 200, 7, 7, 200}, 3)
	f.Fuzz(func(t *testing.T, script []byte, by int) {
		var list []knot.Edge
		for pair := range slices.Chunk(script[:min(len(script), 120)/2*2], 2) {
			list = append(list, knot.Edge{From: int(int8(pair[0])) * by, To: int(int8(pair[1])) * by})
		}
		check(t, list)
		round(t, list, by, twinRound(list, by)...)
	})
}
