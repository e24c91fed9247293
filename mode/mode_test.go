package mode_test

import (
	"math"
	"slices"
	"strings"
	"testing"

	"gauger/api"
	"gauger/mode"
)

// The chapter's words.
const (
	namesWords = "IS 1, IX 2, S 3, U 4, X 5, E 6, GS 7, GI 8, GX 9"
	goesWords  = "IS with IS, IX, S and U; IX with IX; S with S and U; E with E; GS with GS; GI with GI"
	aboveWords = "IX, S, U, X above IS; X above IX; U and X above S; X above U and E; GX above GS and GI"
)

// pair is two modes.
type pair struct{ a, b int }

// numbers is each name's number, as the chapter tells it.
func numbers() map[string]int {
	list := make(map[string]int)
	for _, part := range strings.Split(namesWords, ", ") {
		name, digit, _ := strings.Cut(part, " ")
		list[name] = int(digit[0] - '0')
	}
	return list
}

// modes is all modes, rising.
func modes() []int { return []int{1, 2, 3, 4, 5, 6, 7, 8, 9} }

// listed is the modes of names with commas, or an "and", between.
func listed(t testing.TB, names string) []int {
	var list []int
	for _, name := range strings.Split(strings.ReplaceAll(names, " and ", ", "), ", ") {
		a, ok := numbers()[name]
		if !ok {
			t.Fatalf("no mode has the name %q", name)
		}
		list = append(list, a)
	}
	return list
}

// related is the pairs of which some words speak, each with a word between its two sides.
func related(t testing.TB, words, between string) map[pair]int {
	list := make(map[pair]int)
	for _, part := range strings.Split(words, "; ") {
		left, right, ok := strings.Cut(part, " "+between+" ")
		if !ok {
			t.Fatalf("%q is nowhere in %q", between, part)
		}
		for _, a := range listed(t, left) {
			for _, b := range listed(t, right) {
				list[pair{a, b}] = 1
			}
		}
	}
	return list
}

// book is what the chapter's words say of all pairs of modes.
type book struct{ together, over map[pair]int }

// read is the book of the chapter's words.
func read(t testing.TB) book {
	k := book{together: related(t, goesWords, "with"), over: related(t, aboveWords, "above")}
	for _, a := range modes() {
		for _, b := range modes() {
			if k.together[pair{a, b}] == 1 {
				k.together[pair{b, a}] = 1
			}
		}
		k.over[pair{a, a}] = 1
	}
	return k
}

func (k book) goes(a, b int) bool   { return k.together[pair{a, b}] == 1 }
func (k book) covers(a, b int) bool { return k.over[pair{a, b}] == 1 }

// join is the mode above both that each other one above both is above; 0, if there is none.
func (k book) join(a, b int) int {
	both := slices.DeleteFunc(modes(), func(c int) bool { return !k.covers(c, a) || !k.covers(c, b) })
	for _, c := range both {
		if !slices.ContainsFunc(both, func(d int) bool { return !k.covers(d, c) }) {
			return c
		}
	}
	return 0
}

// check holds all that is answered of two numbers against the book.
func (k book) check(t testing.TB, a, b int) {
	t.Helper()
	if got, want := mode.Good(a), slices.Contains(modes(), a); got != want {
		t.Fatalf("Good(%d) = %v; want %v", a, got, want)
	}
	if got, want := mode.Goes(a, b), k.goes(a, b); got != want {
		t.Fatalf("Goes(%d, %d) = %v; want %v", a, b, got, want)
	}
	if got, want := mode.Covers(a, b), k.covers(a, b); got != want {
		t.Fatalf("Covers(%d, %d) = %v; want %v", a, b, got, want)
	}
	if got, want := mode.Join(a, b), k.join(a, b); got != want {
		t.Fatalf("Join(%d, %d) = %d; want %d", a, b, got, want)
	}
}

// wrong is numbers that are no modes: those beside the modes, the ends of all kinds of numbers, and such as are a mode in their lowest bits, or with their sign turned, alone.
func wrong() []int {
	list := []int{0, 10, 11, 12, 13, 14, 15, 16, 17, 31, 32, 33, 63, 64, 65, 127, 128, 255, 256}
	for shift := 7; shift < 63; shift++ {
		list = append(list, 1<<shift-1, 1<<shift, -1<<shift, -1<<shift-1)
	}
	for a := -16; a <= -1; a++ {
		list = append(list, a, math.MinInt-a-1, math.MaxInt+a+1)
	}
	for _, a := range modes() {
		for shift := 4; shift < 63; shift++ {
			list = append(list, 1<<shift+a, -1<<shift+a)
		}
		list = append(list, math.MinInt+a, math.MaxInt-a)
	}
	slices.Sort(list)
	return slices.Compact(list)
}

// The numbers of the chapter are those of package api, by which others ask.
func TestNumbers(t *testing.T) {
	n := numbers()
	for name, want := range map[string]int{"IS": api.IS, "IX": api.IX, "S": api.S, "U": api.U, "X": api.X, "E": api.E, "GS": api.GS, "GI": api.GI, "GX": api.GX} {
		if n[name] != want {
			t.Fatalf("%s is %d; want %d", name, n[name], want)
		}
	}
	if len(n) != 9 {
		t.Fatalf("there are %d modes; want 9", len(n))
	}
}

// P12.1: the modes are the numbers from 1 to 9, both ends too.
func TestGood(t *testing.T) {
	for _, a := range modes() {
		if !mode.Good(a) {
			t.Fatalf("Good(%d) = false; want true", a)
		}
	}
	for _, a := range wrong() {
		if mode.Good(a) {
			t.Fatalf("Good(%d) = true; want false", a)
		}
	}
}

// P12.1: all pairs of the numbers around the modes are answered as the words say.
func TestPairs(t *testing.T) {
	k := read(t)
	for a := -40; a <= 140; a++ {
		for b := -40; b <= 140; b++ {
			k.check(t, a, b)
		}
	}
}

// P12.1: what goes together, and what is above what, written out: a row for each mode, in the order of their numbers.
func TestPairsByHand(t *testing.T) {
	goes := []string{"1111.....", "11.......", "1.11.....", "1.1......", ".........", ".....1...", "......1..", ".......1.", "........."}
	covers := []string{"1........", "11.......", "1.1......", "1.11.....", "111111...", ".....1...", "......1..", ".......1.", "......111"}
	for _, a := range modes() {
		for _, b := range modes() {
			if got, want := mode.Goes(a, b), goes[a-1][b-1] == '1'; got != want {
				t.Fatalf("Goes(%d, %d) = %v; want %v", a, b, got, want)
			}
			if got, want := mode.Covers(a, b), covers[a-1][b-1] == '1'; got != want {
				t.Fatalf("Covers(%d, %d) = %v; want %v", a, b, got, want)
			}
		}
	}
}

// P12.1: the least mode above two, written out: a row for each mode, in the order of their numbers.
func TestJoinByHand(t *testing.T) {
	for i, row := range []string{
		"123455000",
		"225555000",
		"353455000",
		"454455000",
		"555555000",
		"555556000",
		"000000799",
		"000000989",
		"000000999",
	} {
		for j, want := range row {
			if got := mode.Join(i+1, j+1); got != int(want-'0') {
				t.Fatalf("Join(%d, %d) = %d; want %c", i+1, j+1, got, want)
			}
		}
	}
}

// P12.1: each mode is above itself; whether it goes with itself the words say: U, X and GX don't.
func TestItself(t *testing.T) {
	alone := []int{api.U, api.X, api.GX}
	for _, a := range modes() {
		if !mode.Covers(a, a) {
			t.Fatalf("Covers(%d, %d) = false; want true", a, a)
		}
		if got := mode.Join(a, a); got != a {
			t.Fatalf("Join(%d, %d) = %d; want %d", a, a, got, a)
		}
		if got, want := mode.Goes(a, a), !slices.Contains(alone, a); got != want {
			t.Fatalf("Goes(%d, %d) = %v; want %v", a, a, got, want)
		}
	}
}

// P12.1: two modes have none above both just when one of them is of gaps and the other isn't.
func TestNoJoin(t *testing.T) {
	for _, a := range modes() {
		for _, b := range modes() {
			want := (a >= api.GS) != (b >= api.GS)
			if got := mode.Join(a, b) == 0; got != want {
				t.Fatalf("Join(%d, %d) = %d", a, b, mode.Join(a, b))
			}
		}
	}
}

// P12.1: the joined mode is above both, and each mode above both is above it.
func TestJoinIsLeast(t *testing.T) {
	for _, a := range modes() {
		for _, b := range modes() {
			j := mode.Join(a, b)
			if j != 0 && (!mode.Covers(j, a) || !mode.Covers(j, b)) {
				t.Fatalf("Join(%d, %d) = %d, which isn't above both", a, b, j)
			}
			for _, c := range modes() {
				if mode.Covers(c, a) && mode.Covers(c, b) && !mode.Covers(c, j) {
					t.Fatalf("Join(%d, %d) = %d, and %d is above both, not above that", a, b, j, c)
				}
			}
		}
	}
}

// P12.2: what goes with a joined mode goes with both, told either way round.
func TestGoesWithJoined(t *testing.T) {
	for _, a := range modes() {
		for _, b := range modes() {
			j := mode.Join(a, b)
			for _, c := range modes() {
				if mode.Goes(c, j) && (!mode.Goes(c, a) || !mode.Goes(c, b)) {
					t.Fatalf("%d goes with %d, the join of %d and %d, but not with both", c, j, a, b)
				}
				if mode.Goes(j, c) && (!mode.Goes(a, c) || !mode.Goes(b, c)) {
					t.Fatalf("%d, the join of %d and %d, goes with %d, but not both do", j, a, b, c)
				}
			}
		}
	}
}

// P12.2: Join is the same both ways, and so is Goes; of what is no mode, too.
func TestBothWays(t *testing.T) {
	list := append(modes(), wrong()...)
	for _, a := range list {
		for _, b := range list {
			if x, y := mode.Join(a, b), mode.Join(b, a); x != y {
				t.Fatalf("Join(%d, %d) = %d; Join(%d, %d) = %d", a, b, x, b, a, y)
			}
			if x, y := mode.Goes(a, b), mode.Goes(b, a); x != y {
				t.Fatalf("Goes(%d, %d) = %v; Goes(%d, %d) = %v", a, b, x, b, a, y)
			}
		}
	}
}

// P12.2: three come to the same however they are put together, in whatever order; where one way comes to none, all do.
func TestJoinOfThree(t *testing.T) {
	list := append(modes(), 0, 10, -1, math.MinInt, math.MaxInt)
	for _, a := range list {
		for _, b := range list {
			for _, c := range list {
				want := mode.Join(mode.Join(a, b), c)
				for i, got := range []int{
					mode.Join(a, mode.Join(b, c)),
					mode.Join(b, mode.Join(a, c)),
					mode.Join(mode.Join(c, a), b),
					mode.Join(c, mode.Join(b, a)),
				} {
					if got != want {
						t.Fatalf("Join of %d, %d and %d, way %d, is %d; want %d", a, b, c, i, got, want)
					}
				}
			}
		}
	}
}

// P12.1: what is above a mode that is above another one is above that, too; two aren't each above the other.
func TestAboveOfAbove(t *testing.T) {
	for _, a := range modes() {
		for _, b := range modes() {
			if a != b && mode.Covers(a, b) && mode.Covers(b, a) {
				t.Fatalf("%d and %d are each above the other", a, b)
			}
			for _, c := range modes() {
				if mode.Covers(a, b) && mode.Covers(b, c) && !mode.Covers(a, c) {
					t.Fatalf("%d is above %d, and that above %d, but the first isn't above the last", a, b, c)
				}
			}
		}
	}
}

// The chapter's examples, and X as the join of E with what has a lower number, and a higher one.
func TestExamples(t *testing.T) {
	for _, c := range []struct{ a, b, want int }{
		{api.S, api.IX, api.X},
		{api.S, api.U, api.U},
		{api.GS, api.GI, api.GX},
		{api.S, api.GS, 0},
		{api.E, api.E, api.E},
		{api.E, api.X, api.X},
		{api.E, api.IS, api.X},
	} {
		if got := mode.Join(c.a, c.b); got != c.want {
			t.Fatalf("Join(%d, %d) = %d; want %d", c.a, c.b, got, c.want)
		}
	}
}

// P12.1: what is no mode is not good, goes with none, is above none, has none above it, and is joined with none, as either of two or as both.
func TestWrong(t *testing.T) {
	list := wrong()
	for _, want := range []int{0, 10, -1, -9, math.MinInt, math.MaxInt, 65, 1<<32 + 1, math.MinInt + 1} {
		if !slices.Contains(list, want) {
			t.Fatalf("%d isn't among the wrong numbers", want)
		}
	}
	all := append(modes(), list...)
	for _, a := range list {
		for _, b := range all {
			for _, p := range []pair{{a, b}, {b, a}} {
				if mode.Goes(p.a, p.b) || mode.Covers(p.a, p.b) || mode.Join(p.a, p.b) != 0 {
					t.Fatalf("of %d and %d: %v, %v, %d; want false, false, 0", p.a, p.b, mode.Goes(p.a, p.b), mode.Covers(p.a, p.b), mode.Join(p.a, p.b))
				}
			}
		}
	}
}

// Rule 4: what was asked ahead plays no part in an answer.
func TestAskedAgain(t *testing.T) {
	k := read(t)
	list := append(modes(), 0, 10, -1, math.MinInt, math.MaxInt)
	for _, a := range list {
		for _, b := range list {
			for _, c := range list {
				mode.Join(b, c)
				mode.Goes(c, b)
				mode.Covers(c, a)
				k.check(t, a, b)
			}
		}
	}
}

// FuzzModes holds the answers of any two numbers against the words.
func FuzzModes(f *testing.F) {
	for _, a := range []int{0, 1, 5, 6, 9, 10, -1, math.MinInt, math.MaxInt} {
		f.Add(a, 3)
		f.Add(8, a)
	}
	k := read(f)
	f.Fuzz(func(t *testing.T, a, b int) {
		k.check(t, a, b)
		k.check(t, b, a)
	})
}
