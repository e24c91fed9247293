package lock_test

import (
	"fmt"
	"math"
	"runtime"
	"slices"
	"strings"
	"testing"

	"gauger/api"
	"gauger/lock"
)

// rig is a book whose answers are told where they aren't the expected ones.
type rig struct {
	testing.TB
	*lock.Book
}

// empty is a rig without locks.
func empty(t testing.TB) rig { return rig{t, lock.New()} }

// ask is Ask with the expected error.
func (g rig) ask(id int, name string, mode int, want api.Errno) {
	g.Helper()
	if e := g.Ask(id, name, mode); e != want {
		g.Fatalf("Ask(%d, %q, %d) = %d; want %d", id, name, mode, e, want)
	}
}

// drop and cancel are Drop and Cancel with the expected transactions.
func (g rig) drop(id int, want ...int)   { g.Helper(); g.list("Drop", id, g.Drop(id), want) }
func (g rig) cancel(id int, want ...int) { g.Helper(); g.list("Cancel", id, g.Cancel(id), want) }

// blockers is Blockers with the expected transactions.
func (g rig) blockers(id int, want ...int) { g.Helper(); g.list("Blockers", id, g.Blockers(id), want) }

// list tells where a list isn't the expected one.
func (g rig) list(what string, id int, got, want []int) {
	g.Helper()
	if !slices.Equal(got, want) {
		g.Fatalf("%s(%d) = %v; want %v", what, id, got, want)
	}
}

// mode is Mode with the expected mode.
func (g rig) mode(id int, name string, want int) {
	g.Helper()
	if m := g.Mode(id, name); m != want {
		g.Fatalf("Mode(%d, %q) = %d; want %d", id, name, m, want)
	}
}

// waits is Waits with the expected name and mode; 0: for nothing.
func (g rig) waits(id int, name string, mode int) {
	g.Helper()
	h, ok := g.Waits(id)
	if h != (api.Hold{Name: name, Mode: mode}) || ok != (mode != 0) {
		g.Fatalf("Waits(%d) = %v, %v; want %q, %d", id, h, ok, name, mode)
	}
}

// held is Held with the expected locks, told as fmt tells them.
func (g rig) held(id int, want string) {
	g.Helper()
	if h := fmt.Sprint(g.Held(id)); h != want {
		g.Fatalf("Held(%d) = %s; want %s", id, h, want)
	}
}

// count is Count with the expected number.
func (g rig) count(want int) {
	g.Helper()
	if n := g.Count(); n != want {
		g.Fatalf("Count() = %d; want %d", n, want)
	}
}

// used is Used with the expected answer, of each of some names.
func (g rig) used(want bool, names ...string) {
	g.Helper()
	for _, name := range names {
		if got := g.Used(name); got != want {
			g.Fatalf("Used(%q) = %v; want %v", name, got, want)
		}
	}
}

// modes is all modes, rising.
func modes() []int { return []int{1, 2, 3, 4, 5, 6, 7, 8, 9} }

// wrong is numbers that are no modes.
func wrong() []int {
	return []int{0, 10, 11, 16, 65, 256 + api.S, -1, -api.S, math.MinInt, math.MinInt + api.S, math.MaxInt, 1<<32 + api.S}
}

// The chapter's example: who holds something waits ahead of who doesn't.
func TestExample(t *testing.T) {
	g := empty(t)
	g.ask(1, "n", api.E, api.OK)
	g.ask(2, "n", api.E, api.OK)
	g.ask(3, "n", api.S, api.ErrBusy)
	g.ask(1, "n", api.S, api.ErrBusy)
	g.waits(1, "n", api.X)
	g.waits(3, "n", api.S)
	g.mode(1, "n", api.E)
	g.count(4)
	g.blockers(1, 2)
	g.blockers(3, 1, 2)
	g.drop(2, 1)
	g.mode(1, "n", api.X)
	g.drop(1, 3)
	g.held(3, "[{n 3}]")
}

// P13.1: whatever mode is asked for first is had; numbers that are no modes are refused, and nothing is kept of them.
func TestAskFirst(t *testing.T) {
	for _, m := range modes() {
		g := empty(t)
		g.ask(1, "n", m, api.OK)
		g.mode(1, "n", m)
		g.count(1)
	}
	for _, m := range wrong() {
		g := empty(t)
		g.ask(1, "n", m, api.ErrArg)
		g.used(false, "n")
		g.count(0)
		g.ask(1, "n", api.IS, api.OK)
		g.ask(1, "n", m, api.ErrArg)
		g.ask(2, "n", m, api.ErrArg)
		g.mode(1, "n", api.IS)
		g.count(1)
	}
}

// P13.1: of two transactions the second one has its mode just if it goes with what the first one holds, else it waits for it.
func TestAskBesideAnother(t *testing.T) {
	for _, a := range modes() {
		for _, c := range modes() {
			g := empty(t)
			g.ask(1, "n", a, api.OK)
			if goes(a, c) {
				g.ask(2, "n", c, api.OK)
				g.mode(2, "n", c)
				g.waits(2, "", 0)
				g.blockers(2)
			} else {
				g.ask(2, "n", c, api.ErrBusy)
				g.mode(2, "n", 0)
				g.waits(2, "n", c)
				g.blockers(2, 1)
			}
			g.mode(1, "n", a)
			g.count(2)
		}
	}
}

// P13.1: what is asked for beside what is held is joined with it; what the held mode does for is had already, what can't be joined is refused.
func TestAskAgain(t *testing.T) {
	for _, a := range modes() {
		for _, c := range modes() {
			g := empty(t)
			g.ask(1, "n", a, api.OK)
			if want := joined(a, c); want == 0 {
				g.ask(1, "n", c, api.ErrArg)
				g.mode(1, "n", a)
			} else {
				g.ask(1, "n", c, api.OK)
				g.mode(1, "n", want)
			}
			g.count(1)
			g.waits(1, "", 0)
		}
	}
}

// P13.1: who holds what does for the mode has it, whoever waits, and whatever others hold.
func TestAskForLess(t *testing.T) {
	g := empty(t)
	g.ask(1, "n", api.U, api.OK)
	g.ask(2, "n", api.IS, api.OK)
	g.ask(3, "n", api.X, api.ErrBusy)
	for _, m := range []int{api.IS, api.S, api.U} {
		g.ask(1, "n", m, api.OK)
		g.mode(1, "n", api.U)
	}
	g.count(3)
	// Inherited, S and X stand beside one another: both have what they hold.
	g = empty(t)
	g.ask(1, "n", api.S, api.OK)
	g.ask(2, "m", api.X, api.OK)
	g.Inherit("m", "n")
	g.ask(1, "n", api.S, api.OK)
	g.ask(2, "n", api.S, api.OK)
	g.ask(1, "n", api.U, api.ErrBusy)
}

// P13.1: who holds nothing of a name waits behind who waits for what its mode doesn't go with, though it goes with all that is held; what goes with all is had at once.
func TestAskBehindOneWhoWaits(t *testing.T) {
	for _, a := range modes() {
		for _, w := range modes() {
			if goes(a, w) {
				continue
			}
			for _, c := range modes() {
				g := empty(t)
				g.ask(1, "n", a, api.OK)
				g.ask(2, "n", w, api.ErrBusy)
				if goes(a, c) && goes(w, c) {
					g.ask(3, "n", c, api.OK)
					continue
				}
				g.ask(3, "n", c, api.ErrBusy)
				var want []int
				if !goes(a, c) {
					want = append(want, 1)
				}
				if !goes(w, c) {
					want = append(want, 2)
				}
				g.blockers(3, want...)
			}
		}
	}
}

// P13.1: who holds something of a name passes by those who wait, and has more of it at once, if that goes with what others hold.
func TestMoreAtOnce(t *testing.T) {
	g := empty(t)
	g.ask(1, "n", api.IS, api.OK)
	g.ask(2, "n", api.IS, api.OK)
	g.ask(3, "n", api.X, api.ErrBusy)
	g.ask(4, "n", api.S, api.ErrBusy)
	g.ask(1, "n", api.S, api.OK)
	g.mode(1, "n", api.S)
	g.ask(2, "n", api.U, api.OK)
	g.blockers(3, 1, 2)
	g.blockers(4, 3)
	g.count(4)
	// Alone it has all, though others wait.
	g.drop(2)
	g.ask(1, "n", api.X, api.OK)
	g.blockers(4, 1, 3)
}

// P13.1, P13.3: those who hold something wait ahead of those who don't, and among themselves in the order in which they asked.
func TestMoreWaitsAhead(t *testing.T) {
	g := empty(t)
	for id := range 4 {
		g.ask(id, "n", api.IS, api.OK)
	}
	g.ask(10, "n", api.X, api.ErrBusy)
	g.ask(2, "n", api.X, api.ErrBusy)
	g.ask(11, "n", api.IX, api.ErrBusy)
	g.ask(1, "n", api.X, api.ErrBusy)
	g.ask(3, "n", api.IX, api.OK)
	g.blockers(2, 0, 1, 3)
	g.blockers(1, 0, 2, 3)
	g.blockers(10, 0, 1, 2, 3)
	g.blockers(11, 1, 2, 10)
	g.count(8)
	g.drop(3)
	g.drop(0)
	g.held(2, "[{n 1}]")
	g.drop(1, 2)
	g.drop(2, 10)
	g.drop(10, 11)
}

// P13.1: who waits and holds something is had ahead, in the order in which those who hold something asked.
func TestMoreWaitsInOrder(t *testing.T) {
	g := empty(t)
	g.ask(1, "n", api.IS, api.OK)
	g.ask(2, "n", api.IS, api.OK)
	g.ask(3, "n", api.U, api.OK)
	g.ask(4, "n", api.X, api.ErrBusy)
	g.ask(2, "n", api.U, api.ErrBusy)
	g.ask(1, "n", api.S, api.OK)
	g.drop(3, 2)
	g.mode(2, "n", api.U)
	// Both hold IS, and ask for what doesn't go together: the first that asked is the first that has it.
	g = empty(t)
	g.ask(1, "n", api.IS, api.OK)
	g.ask(2, "n", api.IS, api.OK)
	g.ask(3, "n", api.S, api.OK)
	g.ask(2, "n", api.IX, api.ErrBusy)
	g.ask(1, "n", api.IX, api.ErrBusy)
	g.drop(3, 2, 1)
}

// P13.1: who waits is refused, whatever it asks for: another name, the same, what it holds, and what is no mode.
func TestAskWhileWaiting(t *testing.T) {
	g := empty(t)
	g.ask(1, "n", api.S, api.OK)
	g.ask(2, "n", api.S, api.OK)
	g.ask(1, "m", api.S, api.OK)
	g.ask(1, "n", api.X, api.ErrBusy)
	for _, name := range []string{"n", "m", "other"} {
		for _, m := range append(modes(), wrong()...) {
			g.ask(1, name, m, api.ErrArg)
		}
	}
	g.waits(1, "n", api.X)
	g.held(1, "[{m 3} {n 3}]")
	g.count(4)
	g.cancel(1)
	g.ask(1, "n", api.S, api.OK)
	g.ask(1, "n", api.X, api.ErrBusy)
}

// full is a rig with MaxLocks locks: 1 holds IS of 0 to 296, 2 S of n, 3 IS of n, 4 waits for X of n.
func full(t testing.TB) rig {
	t.Helper()
	g := empty(t)
	for i := range 297 {
		g.ask(1, fmt.Sprint(i), api.IS, api.OK)
	}
	g.ask(2, "n", api.S, api.OK)
	g.ask(3, "n", api.IS, api.OK)
	g.count(299)
	g.ask(4, "n", api.X, api.ErrBusy)
	g.count(300)
	return g
}

// P13.1: when MaxLocks locks are held and waited for, who holds nothing of a name is refused, whether it could have the mode, or would wait; who holds something isn't.
func TestMaxLocks(t *testing.T) {
	g := full(t)
	for _, id := range []int{1, 2, 3, 5, 0, -1} {
		g.ask(id, "new", api.IS, api.ErrLocks)
		g.ask(id, "new", 0, api.ErrArg)
		g.ask(id, "new", 10, api.ErrArg)
	}
	g.ask(5, "0", api.IS, api.ErrLocks)
	g.ask(5, "0", api.X, api.ErrLocks)
	g.ask(5, "n", api.IS, api.ErrLocks)
	g.ask(4, "new", api.IS, api.ErrArg)
	g.used(false, "new")
	g.count(300)
	g.ask(1, "0", api.IS, api.OK)
	g.ask(1, "1", api.X, api.OK)
	g.ask(1, "0", api.GS, api.ErrArg)
	g.count(300)
	// Two who hold something wait, too: these are more than MaxLocks.
	g.ask(3, "n", api.X, api.ErrBusy)
	g.count(301)
	g.ask(2, "n", api.U, api.OK)
	g.ask(5, "new", api.IS, api.ErrLocks)
	g.cancel(3)
	g.count(300)
	g.ask(5, "new", api.IS, api.ErrLocks)
	g.cancel(4)
	g.count(299)
	g.ask(5, "new", api.IS, api.OK)
	g.ask(5, "newer", api.IS, api.ErrLocks)
	g.drop(3)
	g.ask(5, "newer", api.IS, api.OK)
	g.ask(5, "newest", api.IS, api.ErrLocks)
}

// P13.1: so many transactions may hold one name, or wait for it, as well.
func TestMaxLocksOfOneName(t *testing.T) {
	g := empty(t)
	for id := range 300 {
		g.ask(id, "n", api.GS, api.OK)
	}
	g.ask(300, "n", api.GS, api.ErrLocks)
	g.ask(300, "n", api.GI, api.ErrLocks)
	g.ask(0, "n", api.GI, api.ErrBusy)
	g.count(301)
	g = empty(t)
	g.ask(0, "n", api.X, api.OK)
	var want []int
	for id := 1; id < 300; id++ {
		g.ask(300-id, "n", api.GS, api.ErrBusy)
		want = append(want, 300-id)
	}
	g.ask(300, "n", api.GS, api.ErrLocks)
	g.count(300)
	g.drop(0, want...)
	g.count(299)
}

// P13.2: who drops holds nothing and waits for nothing, of all names; others keep what is theirs.
func TestDrop(t *testing.T) {
	g := empty(t)
	for _, name := range []string{"b", "a", "c"} {
		g.ask(1, name, api.S, api.OK)
		g.ask(2, name, api.IS, api.OK)
	}
	g.ask(2, "d", api.X, api.OK)
	g.ask(1, "d", api.S, api.ErrBusy)
	g.drop(1)
	g.held(1, "[]")
	g.waits(1, "", 0)
	g.blockers(1)
	g.held(2, "[{a 1} {b 1} {c 1} {d 5}]")
	g.count(4)
	g.drop(1)
	g.drop(7)
	g.drop(2)
	g.used(false, "a", "b", "c", "d")
	g.count(0)
	g.ask(1, "d", api.X, api.OK)
}

// P13.2: who has it by a Drop stands by rising names first, then by who waits ahead, whatever the order in which they asked.
func TestDropServesByNames(t *testing.T) {
	g := empty(t)
	for _, name := range []string{"b", "a", "c", "a\x00", ""} {
		g.ask(1, name, api.X, api.OK)
	}
	g.ask(9, "c", api.S, api.ErrBusy)
	g.ask(8, "b", api.S, api.ErrBusy)
	g.ask(2, "a\x00", api.E, api.ErrBusy)
	g.ask(7, "b", api.IS, api.ErrBusy)
	g.ask(3, "a", api.GS, api.ErrBusy)
	g.ask(4, "b", api.X, api.ErrBusy)
	g.ask(6, "c", api.IX, api.ErrBusy)
	g.ask(5, "", api.X, api.ErrBusy)
	g.ask(10, "b", api.S, api.ErrBusy)
	g.drop(1, 5, 3, 2, 8, 7, 9)
	g.mode(5, "", api.X)
	g.mode(3, "a", api.GS)
	g.mode(2, "a\x00", api.E)
	g.mode(8, "b", api.S)
	g.mode(7, "b", api.IS)
	g.mode(9, "c", api.S)
	g.blockers(4, 7, 8)
	g.blockers(10, 4)
	g.blockers(6, 9)
}

// P13.2: one who waits behind one who still waits has it only if its mode goes with that one's.
func TestDropPassesNobody(t *testing.T) {
	g := empty(t)
	g.ask(1, "n", api.U, api.OK)
	g.ask(2, "n", api.S, api.OK)
	g.ask(3, "n", api.IX, api.ErrBusy)
	g.ask(4, "n", api.U, api.ErrBusy)
	g.ask(5, "n", api.IS, api.OK)
	g.drop(1)
	g.blockers(4, 3)
	g.drop(2, 3)
	g.blockers(4, 3)
	g.drop(3, 4)
	// E goes with none but E: it stays behind S, though nobody holds anything that isn't E.
	g = empty(t)
	g.ask(1, "n", api.E, api.OK)
	g.ask(2, "n", api.X, api.ErrBusy)
	g.ask(3, "n", api.E, api.ErrBusy)
	g.ask(4, "n", api.E, api.ErrBusy)
	g.blockers(3, 2)
	g.cancel(2, 3, 4)
}

// P13.2: of two who hold something, and want what doesn't go together, one has it by the first Drop, the other by the next one.
func TestDropServesWhoHolds(t *testing.T) {
	g := empty(t)
	g.ask(1, "n", api.S, api.OK)
	g.ask(2, "n", api.S, api.OK)
	g.ask(3, "n", api.X, api.ErrBusy)
	g.ask(2, "n", api.X, api.ErrBusy)
	g.drop(1, 2)
	g.mode(2, "n", api.X)
	g.waits(2, "", 0)
	g.blockers(3, 2)
	g.count(2)
	g.drop(2, 3)
}

// P13.2: who cancels waits for nothing, and holds what it held; those behind have what only its waiting kept from them.
func TestCancel(t *testing.T) {
	g := empty(t)
	g.ask(1, "n", api.S, api.OK)
	g.ask(5, "m", api.E, api.OK)
	g.ask(2, "m", api.E, api.OK)
	g.ask(2, "n", api.X, api.ErrBusy)
	g.ask(4, "n", api.S, api.ErrBusy)
	g.ask(3, "n", api.IS, api.ErrBusy)
	g.ask(6, "n", api.IX, api.ErrBusy)
	g.cancel(1)
	g.cancel(9)
	g.mode(1, "n", api.S)
	g.waits(2, "n", api.X)
	g.cancel(2, 4, 3)
	g.waits(2, "", 0)
	g.blockers(2)
	g.held(2, "[{m 6}]")
	g.blockers(6, 1, 4)
	g.count(6)
	g.cancel(2)
	// Who holds something, and gives up waiting for more, holds that.
	g.ask(5, "m", api.X, api.ErrBusy)
	g.cancel(5)
	g.mode(5, "m", api.E)
	g.cancel(6)
	g.used(true, "n", "m")
	// A name for which one waited alone is used no more than by who holds it.
	g.drop(1)
	g.drop(3)
	g.drop(4)
	g.used(false, "n")
}

// P13.2: one has it by another's having it: none so far where modes only rise, but where one had inherited what it loses.
func TestWantedIsHeldThen(t *testing.T) {
	g := empty(t)
	g.ask(1, "n", api.X, api.OK)
	g.ask(2, "n", api.E, api.ErrBusy)
	g.ask(3, "n", api.E, api.ErrBusy)
	g.ask(2, "m", api.S, api.ErrArg)
	g.cancel(2)
	g.ask(2, "m", api.S, api.OK)
	g.ask(2, "n", api.E, api.ErrBusy)
	// What 2 wants of n was told when it asked: E, though it holds S of it since.
	g.Inherit("m", "n")
	g.mode(2, "n", api.S)
	g.waits(2, "n", api.E)
	g.blockers(2, 1)
	g.blockers(3, 1, 2)
	g.drop(1, 2, 3)
	g.mode(2, "n", api.E)
	g.mode(3, "n", api.E)
	g.mode(2, "m", api.S)
}

// P13.2: who inherits while it waits waits for nobody ahead of it any more, but stands where it stood; it has it by the next Cancel of whoever.
func TestInheritWhileWaiting(t *testing.T) {
	g := empty(t)
	g.ask(1, "n", api.S, api.OK)
	g.ask(4, "m", api.IS, api.OK)
	g.ask(2, "n", api.IX, api.ErrBusy)
	g.ask(3, "n", api.X, api.ErrBusy)
	g.ask(4, "n", api.S, api.ErrBusy)
	g.blockers(4, 2, 3)
	g.Inherit("m", "n")
	g.mode(4, "n", api.IS)
	g.blockers(4)
	g.waits(4, "n", api.S)
	g.count(6)
	// Who asks for more now waits ahead of 2, the first who holds nothing.
	g.ask(1, "n", api.X, api.ErrBusy)
	g.blockers(2, 1)
	g.blockers(3, 1, 2, 4)
	g.cancel(99, 4)
	g.mode(4, "n", api.S)
	g.count(6)
}

// P13.3: of who waits and holds something both locks are counted, and those ahead aren't its Blockers; the same one in two ways is told once.
func TestBlockers(t *testing.T) {
	g := empty(t)
	g.blockers(1)
	g.ask(5, "n", api.IS, api.OK)
	g.ask(-3, "n", api.IS, api.OK)
	g.ask(2, "n", api.IS, api.OK)
	g.ask(math.MaxInt, "n", api.S, api.OK)
	g.ask(math.MinInt, "n", api.U, api.OK)
	g.ask(5, "n", api.IX, api.ErrBusy)
	g.ask(2, "n", api.X, api.ErrBusy)
	g.ask(8, "n", api.X, api.ErrBusy)
	g.ask(7, "n", api.IS, api.ErrBusy)
	g.blockers(5, math.MinInt, math.MaxInt)
	g.blockers(2, math.MinInt, -3, 5, math.MaxInt)
	g.blockers(8, math.MinInt, -3, 2, 5, math.MaxInt)
	g.blockers(7, 2, 8)
	g.blockers(-3)
	g.blockers(100)
	g.count(9)
	g.ask(1, "other", api.X, api.OK)
	g.ask(6, "other", api.X, api.ErrBusy)
	g.blockers(6, 1)
}

// P13.3: what one holds is told by rising names, byte by byte.
func TestHeld(t *testing.T) {
	g := empty(t)
	names := []string{"b", "a", "", "\xff", "a\x00", "B", "ab", "é", "\x00", "b\xff"}
	for i, name := range names {
		g.ask(1, name, i%9+1, api.OK)
		g.ask(2, name+"2", api.X, api.OK)
	}
	sorted := slices.Sorted(slices.Values(names))
	var want []api.Hold
	for _, name := range sorted {
		want = append(want, api.Hold{Name: name, Mode: slices.Index(names, name)%9 + 1})
	}
	if got := g.Held(1); !slices.Equal(got, want) {
		t.Fatalf("Held(1) = %v; want %v", got, want)
	}
	g.held(3, "[]")
	g.mode(1, "nobody's", 0)
	g.mode(3, "a", 0)
}

// P13.3: a name is used as long as anybody holds it, or waits for it.
func TestUsed(t *testing.T) {
	g := empty(t)
	g.used(false, "", "n")
	g.ask(1, "n", api.IS, api.OK)
	g.ask(2, "n", api.X, api.ErrBusy)
	g.used(true, "n")
	g.used(false, "", "m", "n\x00")
	g.cancel(2)
	g.used(true, "n")
	g.drop(1)
	g.used(false, "n")
	// Who inherits holds it, too.
	g.ask(1, "n", api.IS, api.OK)
	g.Inherit("n", "m")
	g.used(true, "m")
	g.drop(1)
	g.used(false, "n", "m")
}

// P13.4: each holder has of the other name what it held of it joined with what it holds of the first one; who waits for that one has nothing by it.
func TestInherit(t *testing.T) {
	for _, a := range modes() {
		for _, c := range append([]int{0}, modes()...) {
			g := empty(t)
			g.ask(1, "from", a, api.OK)
			if c != 0 {
				g.ask(1, "to", c, api.OK)
			}
			g.Inherit("from", "to")
			g.mode(1, "from", a)
			if want := joined(c, a); want != 0 {
				g.mode(1, "to", want)
			} else {
				g.mode(1, "to", c)
			}
			g.count(2)
			g.waits(1, "", 0)
		}
	}
	g := empty(t)
	g.ask(1, "from", api.GS, api.OK)
	g.ask(2, "from", api.GS, api.OK)
	g.ask(3, "from", api.GI, api.ErrBusy)
	g.ask(4, "to", api.GI, api.OK)
	g.ask(2, "to", api.GS, api.ErrBusy)
	g.Inherit("from", "to")
	g.held(1, "[{from 7} {to 7}]")
	g.held(2, "[{from 7} {to 7}]")
	g.held(3, "[]")
	g.held(4, "[{to 8}]")
	g.waits(2, "to", api.GS)
	g.waits(3, "from", api.GI)
	g.count(7)
	// What is of one name is not taken back by what comes to the other one.
	g.Inherit("nobody's", "to")
	g.Inherit("to", "to")
	g.held(1, "[{from 7} {to 7}]")
	g.Inherit("to", "from")
	g.held(4, "[{from 8} {to 8}]")
}

// P13.4: what doesn't go together is held by inheriting; who asks then waits for all of them.
func TestInheritTogether(t *testing.T) {
	g := empty(t)
	g.ask(1, "a", api.X, api.OK)
	g.ask(2, "b", api.X, api.OK)
	g.ask(3, "c", api.GX, api.OK)
	g.ask(3, "b", api.E, api.ErrBusy)
	g.Inherit("a", "b")
	g.Inherit("c", "b")
	g.mode(1, "b", api.X)
	g.mode(2, "b", api.X)
	g.mode(3, "b", api.GX)
	g.blockers(3, 1, 2)
	g.ask(4, "b", api.IS, api.ErrBusy)
	g.blockers(4, 1, 2, 3)
	g.drop(1)
	g.drop(2, 3)
	g.mode(3, "b", api.E)
	g.blockers(4, 3)
}

// P13.4: how many locks there are doesn't bound what is inherited.
func TestInheritBeyondMaxLocks(t *testing.T) {
	g := empty(t)
	for id := range 200 {
		g.ask(id, "from", api.GS, api.OK)
	}
	g.Inherit("from", "to")
	g.count(400)
	for i := range 10 {
		g.Inherit("to", fmt.Sprint(i))
	}
	g.count(2400)
	g.ask(5, "new", api.GS, api.ErrLocks)
	g.ask(200, "from", api.GS, api.ErrLocks)
	g.ask(5, "7", api.GS, api.OK)
	g.ask(5, "7", api.GI, api.ErrBusy)
	g.count(2401)
	for id := range 200 {
		if id != 5 {
			var want []int
			if id == 199 {
				want = []int{5}
			}
			g.drop(id, want...)
		}
	}
	g.mode(5, "7", api.GX)
	g.count(12)
	g.drop(5)
	g.count(0)
}

// P13.5: no two hold what doesn't go together, and nobody waits who goes with all that others hold and wait for ahead, behind long rows of calls without Inherit.
func TestNobodyWaitsForNothing(t *testing.T) {
	ids, names := []int{0, 1, 2, 3, 4, 5, 6, 7}, []string{"a", "b"}
	for seed := range 20 {
		g := empty(t)
		var lines [2][]int
		script := mixed(seed, 1200)
		for i := 0; i+2 < len(script); i += 3 {
			id, name := int(script[i+1])%8, names[script[i+2]%2]
			served := []int{}
			switch script[i] % 8 {
			case 0:
				served = g.Drop(id)
			case 1:
				served = g.Cancel(id)
			default:
				g.Ask(id, name, int(script[i])/8%9+1)
			}
			for _, other := range served {
				if _, ok := g.Waits(other); ok {
					t.Fatalf("%d waits, though it has what it waited for", other)
				}
			}
			for at, name := range names {
				lines[at] = g.line(ids, name, lines[at])
				g.sound(ids, name, lines[at])
			}
		}
	}
}

// line is who waits for a name, in order: as it was, without those who don't any more, and with one who came, ahead of the first who holds nothing, if it holds something.
func (g rig) line(ids []int, name string, was []int) []int {
	waits := func(id int) bool { h, ok := g.Waits(id); return ok && h.Name == name }
	list := slices.DeleteFunc(slices.Clone(was), func(id int) bool { return !waits(id) })
	for _, id := range ids {
		if !waits(id) || slices.Contains(list, id) {
			continue
		}
		at := slices.IndexFunc(list, func(other int) bool { return g.Mode(other, name) == 0 })
		if at < 0 || g.Mode(id, name) == 0 {
			at = len(list)
		}
		list = slices.Insert(list, at, id)
	}
	return list
}

// sound tells where two hold what doesn't go together, and where one waits for nobody.
func (g rig) sound(ids []int, name string, line []int) {
	g.Helper()
	for _, a := range ids {
		for _, b := range ids {
			x, y := g.Mode(a, name), g.Mode(b, name)
			if a != b && x != 0 && y != 0 && !goes(x, y) {
				g.Fatalf("%d holds %d of %q, %d holds %d", a, x, name, b, y)
			}
		}
	}
	for i, id := range line {
		want, _ := g.Waits(id)
		free := true
		for _, other := range ids {
			if m := g.Mode(other, name); other != id && m != 0 && !goes(m, want.Mode) {
				free = false
			}
		}
		for _, other := range line[:i] {
			if h, _ := g.Waits(other); !goes(h.Mode, want.Mode) {
				free = false
			}
		}
		if free {
			g.Fatalf("%d waits for %d of %q, which goes with all", id, want.Mode, name)
		}
	}
}

// P13.6: the byte of the kind, the byte of the tree, the key.
func TestNames(t *testing.T) {
	var all strings.Builder
	for i := range 256 {
		all.WriteByte(byte(i))
	}
	trees := map[int]string{
		0: "\x00", 1: "\x01", 127: "\x7f", 128: "\x80", 200: "\xc8", 255: "\xff", 256: "\x00", 257: "\x01", 511: "\xff", 1<<40 + 77: "M",
		-1: "\xff", -2: "\xfe", -128: "\x80", -255: "\x01", -256: "\x00", -257: "\xff", math.MinInt: "\x00", math.MinInt + 5: "\x05", math.MaxInt: "\xff",
	}
	for tree, b := range trees {
		if got := lock.Table(tree); got != "t"+b {
			t.Fatalf("Table(%d) = %q", tree, got)
		}
		for _, key := range []string{"", "k", "aaaaaaaaa", "\x00", "\xff\xfe", "é", all.String()} {
			if got := lock.Key(tree, key); got != "k"+b+key {
				t.Fatalf("Key(%d, %q) = %q", tree, key, got)
			}
			if got := lock.Gap(tree, key); got != "g"+b+key {
				t.Fatalf("Gap(%d, %q) = %q", tree, key, got)
			}
		}
	}
}

// P13.6: locks of a tree, of a key in it, of the gap ahead of it, and of another tree's are locks of four names.
func TestNamesApart(t *testing.T) {
	g := empty(t)
	list := []string{lock.Table(1), lock.Key(1, ""), lock.Gap(1, ""), lock.Key(1, "a"), lock.Gap(1, "a"), lock.Table(2), lock.Key(2, "a"), ""}
	for id, name := range list {
		g.ask(id, name, api.X, api.OK)
	}
	g.ask(20, lock.Table(257), api.IS, api.ErrBusy)
	g.blockers(20, 0)
	g.held(0, "[{t\x01 5}]")
	g.count(len(list) + 1)
}

// P13.4: a nil book has nothing, and is asked in vain.
func TestNil(t *testing.T) {
	g := rig{t, nil}
	for _, m := range []int{api.S, 0, math.MaxInt} {
		g.ask(1, "n", m, api.ErrNil)
	}
	g.drop(1)
	g.cancel(1)
	g.mode(1, "n", 0)
	g.held(1, "[]")
	g.waits(1, "", 0)
	g.blockers(1)
	g.used(false, "n", "")
	g.Inherit("n", "m")
	g.Inherit("", "")
	g.count(0)
}

// Transactions that aren't there, and names that nobody has: nothing is answered, and nothing changes.
func TestNobody(t *testing.T) {
	g := empty(t)
	g.ask(1, "n", api.X, api.OK)
	g.ask(2, "n", api.X, api.ErrBusy)
	for _, id := range []int{0, 3, -1, math.MinInt, math.MaxInt} {
		g.drop(id)
		g.cancel(id)
		g.mode(id, "n", 0)
		g.held(id, "[]")
		g.waits(id, "", 0)
		g.blockers(id)
	}
	g.Inherit("m", "n")
	g.count(2)
	g.blockers(2, 1)
}

// Rule 3: what is answered is new memory: whoever writes to it changes nothing.
func TestNewMemory(t *testing.T) {
	g := empty(t)
	g.ask(1, "n", api.S, api.OK)
	g.ask(2, "n", api.S, api.OK)
	g.ask(1, "m", api.X, api.OK)
	g.ask(3, "n", api.X, api.ErrBusy)
	g.ask(4, "m", api.E, api.ErrBusy)
	g.ask(5, "m", api.E, api.ErrBusy)
	held := g.Held(1)
	blockers := g.Blockers(3)
	for i := range held {
		held[i] = api.Hold{Name: "x", Mode: 9}
		_ = append(held[:i], api.Hold{})
	}
	for i := range blockers {
		blockers[i] = 77
		_ = append(blockers[:i], 78)
	}
	g.held(1, "[{m 5} {n 3}]")
	g.blockers(3, 1, 2)
	served := g.Drop(1)
	for i := range served {
		served[i] = 77
		_ = append(served[:i], 78)
	}
	g.mode(4, "m", api.E)
	g.mode(5, "m", api.E)
	g.blockers(3, 2)
	g.drop(2, 3)
}

// Rule 4: two books have nothing in common, and the same calls are answered alike, whatever was asked between.
func TestTwoBooks(t *testing.T) {
	script := mixed(3, 900)
	ids, names := []int{1, 2, 3, 4, 5}, []string{"a", "b", "c"}
	p, q := begin(t), begin(t)
	for part := range slices.Chunk(script, 30) {
		p.play(part, ids, names, 1)
		q.play(part, ids, names, 100)
	}
	for _, id := range ids {
		if x, y := fmt.Sprint(p.book.Held(id), p.book.Blockers(id)), fmt.Sprint(q.book.Held(id), q.book.Blockers(id)); x != y {
			t.Fatalf("of %d: %s and %s", id, x, y)
		}
	}
}

// heap is how many bytes are in use.
func heap() int {
	runtime.GC()
	var m runtime.MemStats
	runtime.ReadMemStats(&m)
	return int(m.HeapAlloc)
}

// No more is kept than what is held and waited for: names and transactions that were dropped leave nothing.
func TestKeepsNothingDropped(t *testing.T) {
	g := empty(t)
	before := heap()
	for i := range 20000 {
		name := lock.Key(1, fmt.Sprint(i))
		g.ask(2*i, name, api.X, api.OK)
		g.ask(2*i+1, name, api.S, api.ErrBusy)
		g.Inherit(name, name+"'")
		g.drop(2*i, 2*i+1)
		g.drop(2*i + 1)
	}
	if more := heap() - before; more > 1<<19 {
		t.Fatalf("%d bytes are kept of what was dropped", more)
	}
	g.count(0)
}
