package mains_test

import (
	"math"
	"testing"

	"gauger/api"
	"gauger/mains"
)

// check tells where power isn't as it has to be; asked twice, since asking changes nothing.
func check(t *testing.T, m *mains.Mains, on bool, boots int) {
	t.Helper()
	for range 2 {
		if m.IsOn() != on || m.Boots() != boots {
			t.Fatalf("IsOn() = %v, Boots() = %d; want %v, %d", m.IsOn(), m.Boots(), on, boots)
		}
	}
}

// use tells where one of n uses isn't answered with want.
func use(t *testing.T, m *mains.Mains, n int, want api.Errno) {
	t.Helper()
	for i := range n {
		if e := m.Use(); e != want {
			t.Fatalf("use %d of %d is answered %d; want %d", i, n, e, want)
		}
	}
}

// P3.1: new power is there, came once, and has no fuse.
func TestNew(t *testing.T) {
	m := mains.New()
	check(t, m, true, 1)
	use(t, m, 1000, api.OK)
	check(t, m, true, 1)
}

// P3.1, P3.2: behind a fuse of n just n uses are OK; the one behind them finds none, and the power is away from then on.
func TestFuse(t *testing.T) {
	for _, n := range []int{0, 1, 2, 3, 7, 255, 256, 257, 1 << 16, 1<<16 + 1} {
		m := mains.New()
		m.Fuse(n)
		check(t, m, true, 1)
		use(t, m, n, api.OK)
		check(t, m, true, 1)
		use(t, m, 3, api.ErrDown)
		check(t, m, false, 1)
		m.On()
		check(t, m, true, 2)
		use(t, m, n+10, api.OK)
		check(t, m, true, 2)
	}
}

// P3.1: a fuse of 0 lets the power go at the next use, not by being laid.
func TestFuseZero(t *testing.T) {
	m := mains.New()
	m.Fuse(0)
	check(t, m, true, 1)
	m.On()
	check(t, m, true, 1)
	use(t, m, 1, api.ErrDown)
	check(t, m, false, 1)
}

// P3.1: a fuse below 0 is none, in new power and in the place of another one.
func TestFuseBelowZero(t *testing.T) {
	for _, n := range []int{-1, -2, -5, -1 << 32, math.MinInt + 1, math.MinInt} {
		m := mains.New()
		m.Fuse(n)
		use(t, m, 100, api.OK)
		for _, first := range []int{0, 1, 5, math.MaxInt} {
			m.Fuse(first)
			m.Fuse(n)
			use(t, m, 100, api.OK)
			check(t, m, true, 1)
		}
	}
}

// P3.1: the greatest fuses don't wrap round.
func TestFuseGreat(t *testing.T) {
	for _, n := range []int{math.MaxInt32, math.MaxInt32 + 1, math.MaxUint32, math.MaxUint32 + 1, math.MaxInt - 1, math.MaxInt} {
		m := mains.New()
		m.Fuse(n)
		use(t, m, 1000, api.OK)
		check(t, m, true, 1)
	}
}

// P3.1, P3.2: of fuses that are laid one behind the other the last one counts, greater or smaller, from its own beginning on.
func TestFuseAgain(t *testing.T) {
	for _, c := range []struct{ first, uses, second int }{{5, 0, 2}, {5, 3, 2}, {5, 3, 5}, {1, 1, 4}, {1, 1, 0}, {0, 0, 3}, {-1, 9, 3}} {
		m := mains.New()
		m.Fuse(c.first)
		use(t, m, c.uses, api.OK)
		m.Fuse(c.second)
		use(t, m, c.second, api.OK)
		use(t, m, 2, api.ErrDown)
		check(t, m, false, 1)
	}
}

// P3.1: a fuse that is laid while the power is away doesn't bring it, and is gone when it comes.
func TestFuseWhileAway(t *testing.T) {
	for _, n := range []int{-1, 0, 1, 5, math.MinInt, math.MaxInt} {
		m := mains.New()
		m.Off()
		m.Fuse(n)
		check(t, m, false, 1)
		use(t, m, 3, api.ErrDown)
		check(t, m, false, 1)
		m.On()
		check(t, m, true, 2)
		use(t, m, 20, api.OK)
		check(t, m, true, 2)
	}
}

// P3.1: a fuse that let the power go isn't brought back by another one, but by On alone.
func TestFuseBehindFuse(t *testing.T) {
	m := mains.New()
	m.Fuse(0)
	use(t, m, 1, api.ErrDown)
	m.Fuse(7)
	use(t, m, 1, api.ErrDown)
	m.Fuse(-1)
	use(t, m, 1, api.ErrDown)
	check(t, m, false, 1)
	m.On()
	m.Fuse(2)
	use(t, m, 2, api.OK)
	use(t, m, 2, api.ErrDown)
	check(t, m, false, 2)
}

// P3.1: power goes once, however often it is sent away, and comes once, however often it is called.
func TestOffAndOnTwice(t *testing.T) {
	m := mains.New()
	for life := 1; life < 300; life++ {
		check(t, m, true, life)
		m.Off()
		check(t, m, false, life)
		m.Off()
		check(t, m, false, life)
		use(t, m, 2, api.ErrDown)
		m.On()
		check(t, m, true, life+1)
		m.On()
		m.On()
		check(t, m, true, life+1)
		use(t, m, 2, api.OK)
	}
}

// P3.1: On, of power that is there, does nothing: its fuse stays, as far as it was used.
func TestOnWhileThere(t *testing.T) {
	for n := range 6 {
		for uses := range n + 1 {
			m := mains.New()
			m.Fuse(n)
			use(t, m, uses, api.OK)
			m.On()
			check(t, m, true, 1)
			use(t, m, n-uses, api.OK)
			use(t, m, 2, api.ErrDown)
			check(t, m, false, 1)
		}
	}
}

// P3.1: power that comes again has no fuse, whether its fuse let it go, or it was sent away ahead of that.
func TestOnTakesFuse(t *testing.T) {
	for n := range 6 {
		m := mains.New()
		m.Fuse(n)
		m.Off()
		use(t, m, 2, api.ErrDown)
		m.On()
		check(t, m, true, 2)
		use(t, m, 20, api.OK)
		check(t, m, true, 2)
	}
}

// Rule 5: power that isn't there at all answers ErrNil, and nothing.
func TestNil(t *testing.T) {
	var m *mains.Mains
	for _, n := range []int{-1, 0, 1, math.MinInt, math.MaxInt} {
		m.Fuse(n)
		use(t, m, 2, api.ErrNil)
		m.Off()
		use(t, m, 2, api.ErrNil)
		check(t, m, false, 0)
		m.On()
		use(t, m, 2, api.ErrNil)
		check(t, m, false, 0)
	}
}

// Rule 4: what comes over one doesn't come over another one.
func TestTwo(t *testing.T) {
	a, b := mains.New(), mains.New()
	a.Fuse(1)
	use(t, b, 5, api.OK)
	use(t, a, 1, api.OK)
	use(t, a, 1, api.ErrDown)
	a.On()
	a.Off()
	check(t, a, false, 2)
	check(t, b, true, 1)
	use(t, b, 5, api.OK)
	check(t, mains.New(), true, 1)
}

// move is a call that changes power: Use, Off, On, or Fuse.
type move struct {
	name string
	fuse int
}

// moves is the calls that are tried in each order.
func moves() []move {
	return []move{{name: "Use"}, {name: "Off"}, {name: "On"}, {"Fuse", -3}, {"Fuse", 0}, {"Fuse", 1}, {"Fuse", 2}}
}

// fate is what moves come to, told from them all, from the beginning on: what the last one is answered (0, if it is no use), whether the power is there, and how often it came.
func fate(list []move) (api.Errno, bool, int) {
	last, on, boots := api.OK, true, 1
	fused, left := false, 0
	for _, v := range list {
		last = api.OK
		switch {
		case v.name == "Off":
			on = false
		case v.name == "On" && !on:
			on, boots, fused = true, boots+1, false
		case v.name == "Fuse":
			fused, left = v.fuse >= 0, v.fuse
		case v.name == "Use" && (!on || fused && left == 0):
			last, on = api.ErrDown, false
		case v.name == "Use":
			left--
		}
	}
	return last, on, boots
}

// play does moves with new power, and tells what the last one was answered.
func play(m *mains.Mains, list []move) api.Errno {
	last := api.OK
	for _, v := range list {
		last = api.OK
		switch v.name {
		case "Use":
			last = m.Use()
		case "Off":
			m.Off()
		case "On":
			m.On()
		default:
			m.Fuse(v.fuse)
		}
	}
	return last
}

// judge tells where moves come to something else than their fate.
func judge(t *testing.T, list []move) {
	t.Helper()
	m := mains.New()
	e := play(m, list)
	want, on, boots := fate(list)
	if e != want || m.IsOn() != on || m.Boots() != boots {
		t.Fatalf("%v: %d, IsOn() = %v, Boots() = %d; want %d, %v, %d", list, e, m.IsOn(), m.Boots(), want, on, boots)
	}
}

// P3.1, P3.2: every order of a few calls.
func TestEveryOrder(t *testing.T) {
	var grow func(list []move)
	grow = func(list []move) {
		judge(t, list)
		if len(list) == 6 {
			return
		}
		for _, v := range moves() {
			grow(append(list, v))
		}
	}
	grow(make([]move, 0, 6))
}

// P1, P3.1, P3.2: many calls, with fuses of all kinds.
func FuzzPlay(f *testing.F) {
	f.Add([]byte{})
	f.Add([]byte{0, 1, 0, 2, 0})
	f.Add([]byte{3, 1, 0, 0, 2, 0, 0})
	f.Add([]byte{1, 3, 0, 0, 2, 2, 0, 0, 3, 255, 0})
	f.Fuzz(func(t *testing.T, b []byte) {
		var list []move
		for len(b) > 0 && len(list) < 1000 {
			v := moves()[b[0]%4]
			if v.name == "Fuse" && len(b) > 1 {
				v.fuse = int(int8(b[1]))
				b = b[1:]
			}
			list, b = append(list, v), b[1:]
			judge(t, list)
		}
	})
}
