package escrow_test

import (
	"fmt"
	"math"
	"slices"
	"strconv"
	"strings"
	"testing"

	"gauger/api"
	"gauger/escrow"
	"gauger/wide"
)

// The ends of numbers of 64 bits, and of those of 128.
const (
	lowest  = math.MinInt
	highest = math.MaxInt
)

var (
	bottom = api.Wide{Hi: lowest}
	top    = api.Wide{Hi: highest, Lo: math.MaxUint64}
)

// rig is a book whose answers are told where they aren't the expected ones.
type rig struct {
	testing.TB
	*escrow.Book
}

// empty is a rig of nothing that was added.
func empty(t testing.TB) rig { return rig{t, escrow.New()} }

// after is a rig behind a script, of words such as 1+5 and 2-5 (the transactions 1 and 2 add 5 and -5 to a), 1m (1 makes a savepoint), 1b0 (1 goes back to its savepoint 0) and 1e (1 ends).
func after(t testing.TB, script string) rig {
	t.Helper()
	g := empty(t)
	for _, word := range strings.Fields(script) {
		id := int(word[0] - '0')
		switch word[1] {
		case 'm':
			g.Mark(id)
		case 'b':
			if _, e := g.Back(id, number(t, word[2:])); e != api.OK {
				t.Fatalf("%s in %s: %v", word, script, e)
			}
		case 'e':
			g.End(id)
		default:
			g.Add(id, "a", wide.Of(number(t, word[1:])))
		}
	}
	return g
}

// number is the number that a text tells.
func number(t testing.TB, s string) int {
	t.Helper()
	n, err := strconv.Atoi(s)
	if err != nil {
		t.Fatal(err)
	}
	return n
}

// add is Add of a number of 64 bits.
func (g rig) add(id int, name string, n int) { g.Add(id, name, wide.Of(n)) }

// net is Net with the expected number.
func (g rig) net(id int, name string, want int) { g.Helper(); g.netWide(id, name, wide.Of(want)) }

// netWide is Net with the expected number of 128 bits.
func (g rig) netWide(id int, name string, want api.Wide) {
	g.Helper()
	if n := g.Net(id, name); n != want {
		g.Fatalf("Net(%d, %q) = %v; want %v", id, name, n, want)
	}
}

// mark is Mark with the expected number.
func (g rig) mark(id, want int) {
	g.Helper()
	if n := g.Mark(id); n != want {
		g.Fatalf("Mark(%d) = %d; want %d", id, n, want)
	}
}

// marks is Marks with the expected number.
func (g rig) marks(id, want int) {
	g.Helper()
	if n := g.Marks(id); n != want {
		g.Fatalf("Marks(%d) = %d; want %d", id, n, want)
	}
}

// back is Back with the expected sums, each a name and a number behind it.
func (g rig) back(id, mark int, want ...any) {
	g.Helper()
	var sums []escrow.Sum
	for pair := range slices.Chunk(want, 2) {
		n, ok := pair[1].(api.Wide)
		if !ok {
			n = wide.Of(pair[1].(int))
		}
		sums = append(sums, escrow.Sum{Name: pair[0].(string), N: n})
	}
	if got, e := g.Back(id, mark); !slices.Equal(got, sums) || e != api.OK {
		g.Fatalf("Back(%d, %d) = %v, %v; want %v", id, mark, got, e, sums)
	}
}

// noBack is Back with the expected error, and no sums.
func (g rig) noBack(id, mark int, want api.Errno) {
	g.Helper()
	if got, e := g.Back(id, mark); len(got) != 0 || e != want {
		g.Fatalf("Back(%d, %d) = %v, %v; want %v", id, mark, got, e, want)
	}
}

// bounds is Bounds of a's number with the expected numbers.
func (g rig) bounds(id, now, n int, least, greatest int) {
	g.Helper()
	g.boundsWide(id, wide.Of(now), wide.Of(n), wide.Of(least), wide.Of(greatest))
}

// boundsWide is Bounds of a's number with the expected numbers of 128 bits.
func (g rig) boundsWide(id int, now, n, least, greatest api.Wide) {
	g.Helper()
	if low, high := g.Bounds(id, "a", now, n); low != least || high != greatest {
		g.Fatalf("Bounds(%d, a, %v, %v) = %v, %v; want %v, %v", id, whole(now), whole(n), whole(low), whole(high), whole(least), whole(greatest))
	}
}

// test is Test of a's number with the expected error.
func (g rig) test(id, now, n int, want api.Errno) {
	g.Helper()
	g.testWide(id, wide.Of(now), wide.Of(n), want)
}

// testWide is Test of a's number of 128 bits with the expected error.
func (g rig) testWide(id int, now, n api.Wide, want api.Errno) {
	g.Helper()
	if e := g.Test(id, "a", now, n); e != want {
		g.Fatalf("Test(%d, a, %v, %v) = %v; want %v", id, whole(now), whole(n), e, want)
	}
}

// The chapter's example.
func TestExample(t *testing.T) {
	g, now := empty(t), wide.Of(1<<63-6)
	g.add(1, "a", -10)
	now = wide.Add(now, wide.Of(-10))
	g.testWide(2, now, wide.Of(5), api.OK)
	g.testWide(2, now, wide.Of(6), api.ErrOverflow)
	g.boundsWide(2, now, wide.Of(5), wide.Of(1<<63-16), wide.Of(1<<63-1))
}

// P16.1: nets are sums, of each transaction and name by itself.
func TestAdd(t *testing.T) {
	g := empty(t)
	g.net(1, "a", 0)
	g.add(1, "a", 5)
	g.net(1, "a", 5)
	g.add(1, "a", 7)
	g.net(1, "a", 12)
	g.add(1, "a", -20)
	g.net(1, "a", -8)
	g.add(1, "b", 3)
	g.add(2, "a", -4)
	g.add(1, "a", 0)
	g.add(3, "c", 0)
	g.net(1, "a", -8)
	g.net(1, "b", 3)
	g.net(2, "a", -4)
	g.net(2, "b", 0)
	g.net(3, "a", 0)
	g.net(3, "c", 0)
	g.add(1, "a", 8)
	g.net(1, "a", 0)
	g.add(1, "a", -1)
	g.net(1, "a", -1)
}

// P16.1: transactions may have any numbers, and names any bytes.
func TestAddAny(t *testing.T) {
	g := empty(t)
	ids := []int{0, 1, -1, lowest, highest, 1 << 32, 1<<32 + 1}
	names := []string{"", "a", "A", "aa", "a\x00", "a\x01", "\x00", "\xff\xfe", "a\xff", strings.Repeat("long", 1000)}
	for i, id := range ids {
		for j, name := range names {
			g.add(id, name, 100*i+j)
			g.add(id, name, 1)
		}
	}
	for i, id := range ids {
		for j, name := range names {
			g.net(id, name, 100*i+j+1)
		}
	}
	g.net(2, "a", 0)
	g.net(1, "a\x02", 0)
}

// P16.1: nets have 128 bits.
func TestAddWide(t *testing.T) {
	g := empty(t)
	for range 3 {
		g.add(1, "a", highest)
		g.add(2, "a", lowest)
	}
	g.netWide(1, "a", api.Wide{Hi: 1, Lo: 1<<63 - 3})
	g.netWide(2, "a", api.Wide{Hi: -2, Lo: 1 << 63})
	g.Add(1, "a", api.Wide{Hi: highest - 1, Lo: 1<<63 + 2})
	g.netWide(1, "a", top)
	g.Add(2, "a", api.Wide{Hi: lowest + 1, Lo: 1 << 63})
	g.netWide(2, "a", bottom)
	g.add(1, "a", -1)
	g.netWide(1, "a", api.Wide{Hi: highest, Lo: math.MaxUint64 - 1})
	g.Add(1, "a", wide.Sub(wide.Of(1), top))
	g.net(1, "a", 0)
}

// P16.1: Mark answers how many there were, of each transaction by itself, with and without anything added; they have no limit here.
func TestMark(t *testing.T) {
	g := empty(t)
	g.marks(1, 0)
	g.mark(1, 0)
	g.marks(1, 1)
	g.mark(1, 1)
	g.add(1, "a", 5)
	g.mark(1, 2)
	g.mark(2, 0)
	g.marks(1, 3)
	g.marks(2, 1)
	g.marks(3, 0)
	g.net(1, "a", 5)
	for i := 3; i < 40; i++ {
		g.add(1, "a", 1)
		g.mark(1, i)
		g.marks(1, i+1)
	}
	g.net(1, "a", 42)
	g.back(1, 20, "a", 19)
	g.marks(1, 21)
	g.mark(1, 21)
}

// P16.1: the way back to the last, to one in the midst and to the first savepoint leaves it, and those ahead of it, and takes those behind it away.
func TestBack(t *testing.T) {
	g := empty(t)
	for i, n := range []int{5, 3, -20, 100} {
		g.add(1, "a", n)
		g.mark(1, i)
	}
	g.add(1, "a", 1000)
	g.back(1, 3, "a", 1000)
	g.net(1, "a", 88)
	g.marks(1, 4)
	g.add(1, "a", -7)
	g.back(1, 1, "a", 73)
	g.net(1, "a", 8)
	g.marks(1, 2)
	g.mark(1, 2)
	g.add(1, "a", 1)
	g.mark(1, 3)
	g.back(1, 2, "a", 1)
	g.back(1, 0, "a", 3)
	g.net(1, "a", 5)
	g.marks(1, 1)
	g.noBack(1, 1, api.ErrArg)
	g.add(1, "a", -15)
	g.back(1, 0, "a", -15)
	g.back(1, 0)
	g.net(1, "a", 5)
	g.marks(1, 1)
}

// P16.1: what the way back answers: each name whose net was another one, rising, and none whose net is the same again.
func TestBackAnswer(t *testing.T) {
	g := empty(t)
	g.add(1, "same", 9)
	g.add(1, "more", 1)
	g.add(1, "less", 1)
	g.add(1, "gone", 4)
	g.add(1, "zero", 6)
	g.mark(1, 0)
	g.add(1, "b", 2)
	g.add(1, "\xff", -2)
	g.add(1, "a\x00", 3)
	g.add(1, "a", 4)
	g.add(1, "", 5)
	g.add(1, "B", 6)
	g.add(1, "more", 7)
	g.add(1, "less", -7)
	g.add(1, "gone", 8)
	g.add(1, "gone", -8)
	g.add(1, "new", 8)
	g.add(1, "new", -8)
	g.add(1, "none", 0)
	g.add(1, "zero", -6)
	g.add(2, "other", 5)
	g.back(1, 0, "", 5, "B", 6, "a", 4, "a\x00", 3, "b", 2, "less", -7, "more", 7, "zero", -6, "\xff", -2)
	for name, want := range map[string]int{"same": 9, "more": 1, "less": 1, "gone": 4, "zero": 6, "new": 0, "a": 0, "": 0, "\xff": 0} {
		g.net(1, name, want)
	}
	g.net(2, "other", 5)
	g.back(1, 0)
}

// P16.1: nets that came to the same at savepoints in between are told by the ends alone.
func TestBackPastOthers(t *testing.T) {
	g := empty(t)
	g.mark(1, 0)
	g.add(1, "a", 5)
	g.add(1, "b", 5)
	g.mark(1, 1)
	g.add(1, "a", -5)
	g.add(1, "c", 1)
	g.mark(1, 2)
	g.add(1, "b", -1)
	g.back(1, 0, "b", 4, "c", 1)
	g.net(1, "b", 0)
	g.marks(1, 1)
	g.back(1, 0)
}

// P16.1: a savepoint made ahead of any adding, of a transaction that nothing else is known of.
func TestBackToNothing(t *testing.T) {
	g := empty(t)
	g.mark(1, 0)
	g.mark(1, 1)
	g.back(1, 1)
	g.add(1, "a", 5)
	g.add(1, "b", -5)
	g.back(1, 1, "a", 5, "b", -5)
	g.net(1, "a", 0)
	g.add(1, "a", 6)
	g.mark(1, 2)
	g.add(1, "a", 6)
	g.back(1, 0, "a", 12)
	g.net(1, "a", 0)
	g.marks(1, 1)
}

// P16.1: differences beyond 64 bits, up to those of 128.
func TestBackWide(t *testing.T) {
	g := empty(t)
	g.Add(1, "b", bottom)
	g.mark(1, 0)
	g.Add(1, "a", top)
	g.Add(1, "b", wide.Sub(api.Wide{}, wide.Add(bottom, wide.Of(1))))
	g.Add(1, "c", bottom)
	g.Add(1, "d", api.Wide{Lo: 1 << 63})
	g.Add(1, "e", api.Wide{Hi: 5})
	g.net(1, "b", -1)
	g.back(1, 0, "a", top, "b", top, "c", bottom, "d", api.Wide{Lo: 1 << 63}, "e", api.Wide{Hi: 5})
	g.netWide(1, "b", bottom)
	g.net(1, "a", 0)
}

// P16.1: what is added behind a savepoint, or behind a way back to it, is none of it.
func TestBackAgain(t *testing.T) {
	g := empty(t)
	g.add(1, "a", 5)
	g.mark(1, 0)
	g.mark(1, 1)
	for i := range 5 {
		g.add(1, "a", 10+i)
		g.add(1, "b", -i-1)
		g.back(1, 1, "a", 10+i, "b", -i-1)
		g.net(1, "a", 5)
	}
	g.add(1, "a", 1)
	g.back(1, 0, "a", 1)
	g.add(1, "c", 2)
	g.back(1, 0, "c", 2)
	g.net(1, "a", 5)
	g.net(1, "c", 0)
}

// P16.1: a way back is one of that transaction alone.
func TestBackOfOne(t *testing.T) {
	g := empty(t)
	for id := 1; id <= 3; id++ {
		g.add(id, "a", id)
		g.mark(id, 0)
		g.add(id, "a", 10*id)
		g.mark(id, 1)
		g.add(id, "b", 100*id)
	}
	g.back(2, 0, "a", 20, "b", 200)
	g.net(1, "a", 11)
	g.net(1, "b", 100)
	g.net(3, "a", 33)
	g.marks(1, 2)
	g.marks(2, 1)
	g.marks(3, 2)
	g.back(3, 1, "b", 300)
	g.back(1, 0, "a", 10, "b", 100)
}

// P16.1: no savepoint has a number below 0, or from Marks on; then nothing is changed.
func TestBackWrong(t *testing.T) {
	g := empty(t)
	for _, mark := range []int{0, 1, -1, lowest, highest} {
		g.noBack(1, mark, api.ErrArg)
	}
	g.add(1, "a", 5)
	g.noBack(1, 0, api.ErrArg)
	g.mark(1, 0)
	g.add(1, "a", 6)
	g.mark(1, 1)
	g.add(1, "a", 7)
	for _, mark := range []int{2, 3, -1, -2, lowest, highest, 1 << 32} {
		g.noBack(1, mark, api.ErrArg)
		g.noBack(2, mark, api.ErrArg)
	}
	g.noBack(2, 0, api.ErrArg)
	g.marks(2, 0)
	g.net(1, "a", 18)
	g.marks(1, 2)
	g.back(1, 1, "a", 7)
	g.back(1, 0, "a", 6)
	g.noBack(1, 1, api.ErrArg)
	g.End(1)
	g.noBack(1, 0, api.ErrArg)
}

// P16.1: an answer is the caller's own.
func TestBackNew(t *testing.T) {
	g := empty(t)
	g.mark(1, 0)
	g.add(1, "a", 5)
	g.add(1, "b", 6)
	first, _ := g.Back(1, 0)
	g.add(1, "a", 7)
	g.add(1, "b", 8)
	second, _ := g.Back(1, 0)
	if got := fmt.Sprint(first, second); got != "[{a {0 5}} {b {0 6}}] [{a {0 7}} {b {0 8}}]" {
		t.Fatalf("the answers are %s", got)
	}
	first[0], second[1] = escrow.Sum{}, escrow.Sum{}
	g.net(1, "a", 0)
	g.back(1, 0)
}

// P16.1: of who has ended nothing is known, and it may begin anew; others stay.
func TestEnd(t *testing.T) {
	g := empty(t)
	g.End(1)
	g.add(1, "a", 5)
	g.add(1, "b", 6)
	g.mark(1, 0)
	g.add(2, "a", 7)
	g.mark(2, 0)
	g.mark(3, 0)
	g.End(1)
	g.net(1, "a", 0)
	g.net(1, "b", 0)
	g.marks(1, 0)
	g.net(2, "a", 7)
	g.marks(2, 1)
	g.bounds(1, 100, 0, 93, 100)
	g.End(1)
	g.End(4)
	g.add(1, "b", 1)
	g.mark(1, 0)
	g.net(1, "a", 0)
	g.net(1, "b", 1)
	g.back(1, 0)
	g.End(3)
	g.marks(3, 0)
	g.mark(3, 0)
	g.End(2)
	g.net(2, "a", 0)
	g.bounds(1, 100, 0, 100, 100)
}

// P16.1: two books have nothing of each other.
func TestTwoBooks(t *testing.T) {
	g, h := empty(t), empty(t)
	g.add(1, "a", 5)
	g.mark(1, 0)
	h.net(1, "a", 0)
	h.marks(1, 0)
	h.bounds(1, 9, 0, 9, 9)
	h.End(1)
	g.net(1, "a", 5)
	g.marks(1, 1)
}

// P16.1, P16.2: a nil book does nothing, and answers nothing, or ErrNil.
func TestNil(t *testing.T) {
	g := rig{t, nil}
	g.add(1, "a", 5)
	g.net(1, "a", 0)
	g.mark(1, 0)
	g.marks(1, 0)
	for _, mark := range []int{0, -1, 5} {
		g.noBack(1, mark, api.ErrNil)
	}
	g.End(1)
	g.bounds(1, 5, 6, 0, 0)
	g.test(1, 0, 0, api.ErrNil)
	g.test(1, highest, 1, api.ErrNil)
}

// P16.2: bounds behind scripts, where a's number is now, and a transaction adds n.
func TestBounds(t *testing.T) {
	for _, c := range []struct {
		script          string
		id, now, n      int
		least, greatest int
	}{
		// Nobody has added.
		{"", 1, 7, 0, 7, 7},
		{"", 1, 7, 3, 7, 10},
		{"", 1, 7, -3, 4, 7},
		{"1m 2m 2m", 1, 7, 3, 7, 10},
		{"1m 2m 2m", 3, 7, 0, 7, 7},
		// One has: it stays, or is undone.
		{"1+5", 2, 100, 0, 95, 100},
		{"1-5", 2, 100, 0, 100, 105},
		{"1+5", 2, 100, 3, 95, 103},
		{"1+5", 2, 100, -3, 92, 100},
		{"1-5", 2, 100, 3, 100, 108},
		{"1-5", 2, 100, -3, 97, 105},
		{"1+5 1-5", 2, 100, 0, 100, 100},
		// The transaction itself has: with what it adds it stays, or is undone.
		{"1+5", 1, 100, 0, 95, 100},
		{"1+5", 1, 100, 3, 95, 103},
		{"1+5", 1, 100, -3, 95, 97},
		{"1+5", 1, 100, -5, 95, 95},
		{"1+5", 1, 100, -8, 92, 95},
		{"1-5", 1, 100, 5, 105, 105},
		{"1-5", 1, 100, 8, 105, 108},
		// Several have.
		{"1+5 2+7", 3, 100, 0, 88, 100},
		{"1+5 2-7", 3, 100, 0, 95, 107},
		{"1+5 2-7 3+1 4-2", 5, 100, 0, 94, 109},
		{"1+5 2-7 3+1 4-2", 3, 100, -3, 92, 108},
		// One may go back to a savepoint.
		{"1+5 1m 1+3", 2, 100, 0, 92, 100},
		{"1+5 1m 1-3", 2, 100, 0, 98, 103},
		{"1+5 1m 1-9", 2, 100, 0, 100, 109},
		{"1-5 1m 1+9", 2, 100, 0, 91, 100},
		{"1-5 1m 1+3", 2, 100, 0, 97, 102},
		{"1+15 1m 1-15", 2, 100, 0, 100, 115},
		{"1m 1+5", 2, 100, 0, 95, 100},
		{"1m 1-5", 2, 100, 0, 100, 105},
		// To the first one, to one in the midst, to the last one.
		{"1+9 1m 1-7 1m 1+1 1m 1-1", 2, 100, 0, 98, 107},
		{"1+1 1m 1+8 1m 1-7 1m 1+2", 2, 100, 0, 96, 105},
		{"1+1 1m 1+1 1m 1+7 1m 1-5", 2, 100, 0, 96, 105},
		{"1+5 1m 1-9 1m 1+20 1m 1-13", 2, 100, 0, 93, 113},
		// The transaction itself: what it had when it added is no outcome, unless it was so at a savepoint.
		{"1+5 1m", 1, 100, 3, 95, 103},
		{"1+5 1m", 1, 100, -8, 92, 100},
		{"1+5 1m 1+2", 1, 100, -10, 90, 98},
		{"1+5 1m 1+2 1m", 1, 100, -10, 90, 100},
		{"1m", 1, 100, 4, 100, 104},
		{"1m 1-4", 1, 100, 4, 104, 104},
		{"1-4 1m", 1, 100, 4, 100, 104},
		// What was left by a way back, and by an end, is no outcome.
		{"1+5 1m 1+40 1m 1-60 1b0", 2, 100, 0, 95, 100},
		{"1+5 1m 1+40 1m 1-60 1b1", 2, 100, 0, 55, 100},
		{"1+5 1m 1+40 1m 1-60 1b0 1-9", 2, 100, 0, 100, 109},
		{"1+5 1m 1+40 2+3 1e", 2, 100, 0, 97, 100},
		{"1+5 2+3 1e 2e", 2, 100, 0, 100, 100},
		// The least is one's net at a savepoint, and another one's whole net; the greatest the other way round.
		{"1-5 1m 1+9 2+6 2m 2-8", 3, 100, 0, 91, 108},
		{"1-5 1m 1+9 2+6 2m 2-8", 2, 100, -1, 90, 108},
		{"1-5 1m 1+9 2+6 2m 2-8", 1, 100, 1, 91, 109},
		{"1-5 1m 1+9 2+6 2m 2-8 3m 3m", 3, 100, 2, 91, 110},
	} {
		after(t, c.script).bounds(c.id, c.now, c.n, c.least, c.greatest)
	}
}

// P16.2: a name's bounds hang on that name alone.
func TestBoundsOfNames(t *testing.T) {
	g := empty(t)
	g.add(1, "a", 5)
	g.add(1, "b", 50)
	g.mark(1, 0)
	g.add(1, "b", 500)
	g.add(2, "a\x00", -7)
	g.add(2, "", 8)
	g.bounds(3, 100, 0, 95, 100)
	for name, want := range map[string][2]int{"b": {-450, 100}, "a\x00": {100, 107}, "": {92, 100}, "c": {100, 100}} {
		if low, high := g.Bounds(3, name, wide.Of(100), wide.Of(0)); low != wide.Of(want[0]) || high != wide.Of(want[1]) {
			t.Fatalf("Bounds of %q: %v, %v; want %v", name, low, high, want)
		}
	}
	if e := g.Test(3, "c", wide.Of(highest), wide.Of(0)); e != api.OK {
		t.Fatalf("Test of c: %v", e)
	}
	if e := g.Test(3, "a\x00", wide.Of(highest), wide.Of(0)); e != api.ErrOverflow {
		t.Fatalf("Test of a and 0: %v", e)
	}
}

// P16.2: bounds and nets beyond 64 bits, up to those of 128.
func TestBoundsWide(t *testing.T) {
	one := wide.Of(1)
	g := empty(t)
	g.boundsWide(1, top, api.Wide{}, top, top)
	g.boundsWide(1, bottom, api.Wide{}, bottom, bottom)
	g.boundsWide(1, bottom, top, bottom, wide.Of(-1))
	g.boundsWide(1, wide.Of(-1), bottom, top, wide.Of(-1))
	g.boundsWide(1, api.Wide{}, top, api.Wide{}, top)
	g.Add(1, "a", top)
	g.boundsWide(2, top, api.Wide{}, api.Wide{}, top)
	g.boundsWide(2, wide.Of(-1), api.Wide{}, bottom, wide.Of(-1))
	g.boundsWide(2, wide.Sub(top, one), one, wide.Of(-1), top)
	g.mark(1, 0)
	g.Add(1, "a", wide.Of(-1))
	g.boundsWide(2, wide.Sub(top, one), api.Wide{}, api.Wide{}, top)
	g = empty(t)
	g.Add(1, "a", bottom)
	g.boundsWide(2, wide.Of(-1), api.Wide{}, wide.Of(-1), top)
	g.boundsWide(2, bottom, api.Wide{}, bottom, api.Wide{})
	g.boundsWide(1, bottom, top, wide.Of(-1), api.Wide{})
	g = empty(t)
	g.Add(1, "a", api.Wide{Hi: 4, Lo: 5})
	g.Add(2, "a", api.Wide{Hi: -7, Lo: 1})
	g.mark(2, 0)
	g.Add(2, "a", api.Wide{Hi: 20})
	g.boundsWide(3, api.Wide{Hi: 30, Lo: 9}, api.Wide{Hi: 1, Lo: 1}, api.Wide{Hi: 6, Lo: 4}, api.Wide{Hi: 31, Lo: 10})
}

// P16.2: an outcome at an end of 64 bits is OK, and one beyond isn't.
func TestEnds(t *testing.T) {
	for _, c := range []struct {
		script     string
		id, now, n int
		want       api.Errno
	}{
		{"", 1, highest, 0, api.OK},
		{"", 1, highest - 1, 1, api.OK},
		{"", 1, highest, 1, api.ErrOverflow},
		{"", 1, highest, -1, api.OK},
		{"", 1, 0, highest, api.OK},
		{"", 1, 1, highest, api.ErrOverflow},
		{"", 1, lowest, 0, api.OK},
		{"", 1, lowest + 1, -1, api.OK},
		{"", 1, lowest, -1, api.ErrOverflow},
		{"", 1, lowest, 1, api.OK},
		{"", 1, 0, lowest, api.OK},
		{"", 1, -1, lowest, api.ErrOverflow},
		{"", 1, lowest, highest, api.OK},
		{"", 1, highest, lowest, api.OK},
		// One may be undone.
		{"1-10", 2, highest - 10, 0, api.OK},
		{"1-10", 2, highest - 9, 0, api.ErrOverflow},
		{"1-10", 2, highest - 12, 2, api.OK},
		{"1-10", 2, highest - 12, 3, api.ErrOverflow},
		{"1-10", 2, highest - 9, -5, api.ErrOverflow},
		{"1+10", 2, lowest + 10, 0, api.OK},
		{"1+10", 2, lowest + 9, 0, api.ErrOverflow},
		{"1+10", 2, lowest + 12, -2, api.OK},
		{"1+10", 2, lowest + 12, -3, api.ErrOverflow},
		{"1+10", 2, lowest + 9, 5, api.ErrOverflow},
		{"1+10", 2, highest, 0, api.OK},
		{"1-10", 2, lowest, 0, api.OK},
		// The transaction itself may.
		{"1-10", 1, highest - 10, 10, api.OK},
		{"1-10", 1, highest - 10, 11, api.ErrOverflow},
		{"1-10", 1, highest - 9, 0, api.ErrOverflow},
		{"1+10", 1, lowest + 10, -11, api.ErrOverflow},
		{"1+10", 1, lowest + 10, -10, api.OK},
		// One may go back.
		{"1+15 1m 1-15", 2, highest - 20, 5, api.OK},
		{"1+15 1m 1-15", 2, highest - 20, 6, api.ErrOverflow},
		{"1-15 1m 1+15", 2, lowest + 20, -5, api.OK},
		{"1-15 1m 1+15", 2, lowest + 20, -6, api.ErrOverflow},
		{"1+15 1m 1-15", 1, highest - 20, 20, api.OK},
		{"1+15 1m 1-15", 1, highest - 20, 21, api.ErrOverflow},
		{"1+15 1m 1-15", 1, highest - 15, 0, api.OK},
		{"1+15 1m 1-15", 1, highest - 14, 0, api.ErrOverflow},
		{"1+15 1m 1-15 1b0", 2, highest - 5, 5, api.OK},
		{"1+15 1m 1-15 1e", 2, highest - 5, 5, api.OK},
		// Both ends at a time.
		{"1+1", 2, lowest + 1, highest, api.OK},
		{"1+1", 2, lowest, highest, api.ErrOverflow},
	} {
		g := after(t, c.script)
		g.test(c.id, c.now, c.n, c.want)
	}
}

// P16.2, P16.3: what is beyond 64 bits, and what is beyond 128, is never OK: not where nets that are beyond together come to nothing modulo 2^128, either.
func TestBeyond(t *testing.T) {
	for _, now := range []api.Wide{{Lo: 1 << 63}, {Lo: math.MaxUint64}, {Hi: 1}, {Hi: -1}, {Hi: -1, Lo: 1<<63 - 1}, {Hi: -2, Lo: 1<<64 - 1}, top, bottom} {
		empty(t).testWide(1, now, api.Wide{}, api.ErrOverflow)
		empty(t).testWide(1, api.Wide{}, now, api.ErrOverflow)
		empty(t).testWide(1, now, wide.Sub(api.Wide{}, now), api.ErrOverflow)
		g := empty(t)
		g.Add(1, "a", now)
		g.testWide(2, now, api.Wide{}, api.ErrOverflow)
		g.testWide(2, wide.Sub(now, wide.Of(1)), wide.Of(1), api.ErrOverflow)
	}
	for _, nets := range [][]api.Wide{{bottom, bottom}, {top, top, wide.Of(2)}, {api.Wide{Hi: 1 << 62}, api.Wide{Hi: 1 << 62}, bottom}, {bottom, bottom, bottom, bottom}} {
		g := empty(t)
		for id, n := range nets {
			g.Add(id, "a", n)
		}
		g.test(9, 0, 0, api.ErrOverflow)
		g.test(0, 5, 0, api.ErrOverflow)
		g.test(9, -5, 10, api.ErrOverflow)
	}
	// From one end of 128 bits to the other one: the number goes round, and comes to just one less.
	g := empty(t)
	g.Add(1, "a", top)
	g.mark(1, 0)
	g.Add(1, "a", wide.Of(1))
	g.netWide(1, "a", bottom)
	g.test(2, 0, 0, api.ErrOverflow)
	g.test(1, 0, 0, api.ErrOverflow)
}

// P16.2: Bounds and Test change nothing: what is asked isn't added.
func TestAskedIsNotAdded(t *testing.T) {
	g := after(t, "1+5 1m 1-2 2+7")
	for id := range 4 {
		for range 3 {
			g.Bounds(id, "a", wide.Of(100), wide.Of(50))
			g.Test(id, "a", wide.Of(100), wide.Of(-50))
			g.Test(id, "b", wide.Of(highest), wide.Of(50))
		}
	}
	for id, want := range []int{0, 3, 7, 0} {
		g.net(id, "a", want)
		g.net(id, "b", 0)
	}
	g.marks(1, 1)
	g.marks(0, 0)
	g.bounds(3, 100, 0, 90, 102)
	g.back(1, 0, "a", -2)
}

// P16.2: what was asked, and then added, comes to the same bounds.
func TestAskedThenAdded(t *testing.T) {
	for _, script := range []string{"", "1m", "1+5", "1+5 1m", "1+5 1m 1-9", "2+5 2m 2-9", "1+4 2-6 1m 2m 1-1 2+9"} {
		for _, n := range []int{0, 1, -1, 7, -7, highest, lowest} {
			g := after(t, script)
			now, more := wide.Of(100), wide.Of(n)
			least, greatest := g.Bounds(1, "a", now, more)
			e := g.Test(1, "a", now, more)
			g.Add(1, "a", more)
			g.boundsWide(1, wide.Add(now, more), api.Wide{}, least, greatest)
			g.boundsWide(9, wide.Add(now, more), api.Wide{}, least, greatest)
			g.testWide(9, wide.Add(now, more), api.Wide{}, e)
		}
	}
}
