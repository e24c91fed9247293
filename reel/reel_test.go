package reel_test

import (
	"fmt"
	"math"
	"math/big"
	"strings"
	"testing"

	"gauger/api"
	"gauger/mains"
	"gauger/reel"
)

// mixed is n bytes among which there is no plain rule; others for another seed.
func mixed(seed, n int) string {
	b := make([]byte, n)
	x := uint32(seed + 1)
	for i := range b {
		x = x*1664525 + 1013904223
		b[i] = byte(x >> 24)
	}
	return string(b)
}

// want tells where an answer isn't the expected error.
func want(t *testing.T, what string, e, expected api.Errno) {
	t.Helper()
	if e != expected {
		t.Fatalf("%s: %d; want %d", what, e, expected)
	}
}

// counts tells where a reel doesn't have so many bytes, so many safe, and room for so many; asked twice, since asking changes nothing.
func counts(t *testing.T, r *reel.Reel, all, safe, left int) {
	t.Helper()
	for range 2 {
		if r.Len() != all || r.Safe() != safe || r.Left() != left {
			t.Fatalf("Len() = %d, Safe() = %d, Left() = %d; want %d, %d, %d", r.Len(), r.Safe(), r.Left(), all, safe, left)
		}
	}
}

// holds tells where a reel isn't read with the bytes that it has to have; read twice, since reading changes nothing.
func holds(t *testing.T, r *reel.Reel, data string) {
	t.Helper()
	for range 2 {
		s, e := r.Read()
		if e != api.OK {
			t.Fatalf("Read: %d; want OK", e)
		}
		if s != data {
			t.Fatalf("Read() has %d bytes, %q; want %d, %q", len(s), short(s), len(data), short(data))
		}
	}
}

// short is bytes cut to what can be looked at.
func short(s string) string {
	return s[:min(len(s), 300)]
}

// made is a reel, on power of its own, of the given room, with safe bytes and bytes behind them that aren't.
func made(t *testing.T, size int, safe, rest string) (*mains.Mains, *reel.Reel) {
	t.Helper()
	m := mains.New()
	r := reel.New(m, size)
	want(t, "Append", r.Append(safe), api.OK)
	want(t, "Sync", r.Sync(), api.OK)
	want(t, "Append", r.Append(rest), api.OK)
	counts(t, r, len(safe)+len(rest), len(safe), size-len(safe)-len(rest))
	return m, r
}

// lose has the power go, settles, and has it come again.
func lose(t *testing.T, m *mains.Mains, r *reel.Reel, keep int) {
	t.Helper()
	m.Off()
	want(t, "Settle", r.Settle(keep), api.OK)
	m.On()
}

// ends is numbers at the ends of the types of whole numbers, and about them.
func ends() []int {
	return []int{math.MinInt, math.MinInt + 1, -1 << 32, math.MinInt32, -256, -2, -1, 0, 1, 2, math.MaxInt32, math.MaxUint32, 1 << 32, math.MaxInt - 1, math.MaxInt}
}

// P5.1: a reel has no bytes, and room for as many as it was told, from none to MaxLog, the nearest of others: just so many find room.
func TestNew(t *testing.T) {
	for _, c := range []struct{ told, room int }{
		{0, 0}, {1, 1}, {2, 2}, {8, 8}, {255, 255}, {256, 256}, {1 << 16, 1 << 16}, {1<<18 - 1, 1<<18 - 1}, {1 << 18, 1 << 18},
		{1<<18 + 1, 1 << 18}, {1 << 19, 1 << 18}, {1 << 32, 1 << 18}, {1<<32 + 3, 1 << 18}, {math.MaxInt - 1, 1 << 18}, {math.MaxInt, 1 << 18},
		{-1, 0}, {-2, 0}, {-1 << 18, 0}, {-1 << 32, 0}, {3 - 1<<32, 0}, {math.MinInt + 1, 0}, {math.MinInt, 0},
	} {
		r := reel.New(mains.New(), c.told)
		counts(t, r, 0, 0, c.room)
		holds(t, r, "")
		data := mixed(c.room, c.room)
		want(t, "Append", r.Append(data+"z"), api.ErrFull)
		counts(t, r, 0, 0, c.room)
		want(t, "Append", r.Append(data), api.OK)
		counts(t, r, c.room, 0, 0)
		want(t, "Append", r.Append("z"), api.ErrFull)
		want(t, "Sync", r.Sync(), api.OK)
		want(t, "Append", r.Append("z"), api.ErrFull)
		counts(t, r, c.room, c.room, 0)
		holds(t, r, data)
	}
}

// P5.1: a reel with room for none takes no bytes, which use the power all the same; it is synced, trimmed, read and settled as others.
func TestNoRoom(t *testing.T) {
	for _, size := range []int{0, -1, math.MinInt} {
		m := mains.New()
		r := reel.New(m, size)
		m.Fuse(3)
		want(t, "Append", r.Append("a"), api.ErrFull)
		want(t, "Append", r.Append(""), api.OK)
		want(t, "Sync", r.Sync(), api.OK)
		want(t, "Trim", r.Trim(0), api.OK)
		want(t, "Trim", r.Trim(1), api.ErrArg)
		want(t, "Trim", r.Trim(-1), api.ErrArg)
		want(t, "Settle", r.Settle(1), api.ErrState)
		holds(t, r, "")
		want(t, "Append", r.Append(""), api.ErrDown)
		for _, keep := range ends() {
			want(t, "Settle", r.Settle(keep), api.OK)
			counts(t, r, 0, 0, 0)
		}
		m.On()
		holds(t, r, "")
	}
}

// P5.1: bytes of every kind stand one behind the other as they were given, none of them safe, whatever was synced between.
func TestAppend(t *testing.T) {
	every := make([]byte, 256)
	for i := range every {
		every[i] = byte(i)
	}
	m := mains.New()
	r := reel.New(m, api.MaxLog)
	data, safe := "", 0
	for i, s := range []string{"", "a", "\x00", "\x00\x00", string(every), "", "\xff\xfe", "\xe4\xb8", "ab\n", mixed(1, 1000), "\xc3\xa9", mixed(2, 257)} {
		want(t, "Append", r.Append(s), api.OK)
		data += s
		counts(t, r, len(data), safe, api.MaxLog-len(data))
		holds(t, r, data)
		if i%3 == 2 {
			want(t, "Sync", r.Sync(), api.OK)
			safe = len(data)
			counts(t, r, safe, safe, api.MaxLog-safe)
			holds(t, r, data)
		}
	}
}

// P5.1: with each number of bytes there what just fits goes in, one byte more is ErrFull and changes nothing, none always go in.
func TestAppendFits(t *testing.T) {
	for size := range 20 {
		for there := range size + 1 {
			for safe := range there + 1 {
				data := mixed(size, there)
				_, r := made(t, size, data[:safe], data[safe:])
				left := size - there
				for _, more := range []int{1, 2, 256, api.MaxLog} {
					want(t, "Append", r.Append(strings.Repeat("z", left+more)), api.ErrFull)
				}
				counts(t, r, there, safe, left)
				holds(t, r, data)
				want(t, "Append", r.Append(""), api.OK)
				counts(t, r, there, safe, left)
				tail := mixed(size+100, left)
				want(t, "Append", r.Append(tail), api.OK)
				counts(t, r, size, safe, 0)
				want(t, "Append", r.Append(""), api.OK)
				want(t, "Append", r.Append("z"), api.ErrFull)
				counts(t, r, size, safe, 0)
				holds(t, r, data+tail)
			}
		}
	}
}

// P5.1: the greatest reel is filled piece by piece to its last byte, and has room again when it was trimmed.
func TestFill(t *testing.T) {
	r := reel.New(mains.New(), api.MaxLog)
	data := mixed(7, api.MaxLog)
	at := 0
	for n := 1; at+n <= api.MaxLog; n = n*5/4 + 1 {
		want(t, "Append", r.Append(data[at:at+n]), api.OK)
		at += n
	}
	left := api.MaxLog - at
	counts(t, r, at, 0, left)
	want(t, "Append", r.Append(data[at:]+"z"), api.ErrFull)
	want(t, "Append", r.Append(data[at:]), api.OK)
	counts(t, r, api.MaxLog, 0, 0)
	holds(t, r, data)
	want(t, "Trim", r.Trim(api.MaxLog-3), api.OK)
	want(t, "Append", r.Append("abcd"), api.ErrFull)
	want(t, "Append", r.Append("abc"), api.OK)
	counts(t, r, api.MaxLog, api.MaxLog-3, 0)
	holds(t, r, data[:api.MaxLog-3]+"abc")
}

// P5.1: what can't be is told ahead of power that is away, and uses none.
func TestOrderOfErrors(t *testing.T) {
	m, r := made(t, 8, "abc", "de")
	m.Fuse(0)
	for range 2 {
		want(t, "Append", r.Append("fghi"), api.ErrFull)
		want(t, "Trim", r.Trim(-1), api.ErrArg)
		want(t, "Trim", r.Trim(6), api.ErrArg)
		want(t, "Settle", r.Settle(0), api.ErrState)
		if !m.IsOn() {
			t.Fatal("a call that can't be used the power")
		}
	}
	m.Off()
	for range 2 {
		want(t, "Append", r.Append("fghi"), api.ErrFull)
		want(t, "Trim", r.Trim(-1), api.ErrArg)
		want(t, "Trim", r.Trim(6), api.ErrArg)
	}
	counts(t, r, 5, 3, 3)
	m.On()
	holds(t, r, "abcde")
}

// P5.1: of each number of bytes, and of safe ones, just the first n are left by a Trim, all of them safe: no loss takes any of them, nor brings any other back.
func TestTrim(t *testing.T) {
	const size = 12
	for there := range size + 1 {
		data := mixed(there, there)
		for safe := range there + 1 {
			for n := range there + 1 {
				m, r := made(t, size, data[:safe], data[safe:])
				want(t, "Trim", r.Trim(n), api.OK)
				counts(t, r, n, n, size-n)
				holds(t, r, data[:n])
				lose(t, m, r, 0)
				holds(t, r, data[:n])
				lose(t, m, r, -1)
				holds(t, r, data[:n])
				tail := mixed(there+50, size-n)
				want(t, "Append", r.Append(tail), api.OK)
				counts(t, r, size, n, 0)
				holds(t, r, data[:n]+tail)
				lose(t, m, r, 0)
				counts(t, r, n, n, size-n)
				holds(t, r, data[:n])
			}
		}
	}
}

// P5.1: a Trim to below 0, or to behind Len, is ErrArg, and changes nothing: what is behind what is safe stays unsafe.
func TestTrimArg(t *testing.T) {
	for there := range 10 {
		for safe := range there + 1 {
			data := mixed(there, there)
			m, r := made(t, 16, data[:safe], data[safe:])
			list := []int{-1, -2, -there, -there - 1, there + 1, there + 2, 15, 16, 17, api.MaxLog}
			for _, n := range append(list, ends()...) {
				if n >= 0 && n <= there {
					continue
				}
				want(t, "Trim", r.Trim(n), api.ErrArg)
				counts(t, r, there, safe, 16-there)
			}
			holds(t, r, data)
			lose(t, m, r, 0)
			holds(t, r, data[:safe])
		}
	}
}

// P5.1: while the power is away nothing is added, synced, trimmed or read; what was there is there when it comes again, as safe as it was.
func TestDown(t *testing.T) {
	m, r := made(t, 9, "abc", "de")
	m.Off()
	for range 2 {
		want(t, "Append", r.Append("f"), api.ErrDown)
		want(t, "Append", r.Append(""), api.ErrDown)
		want(t, "Sync", r.Sync(), api.ErrDown)
		for n := range 6 {
			want(t, "Trim", r.Trim(n), api.ErrDown)
		}
		if s, e := r.Read(); s != "" || e != api.ErrDown {
			t.Fatalf("Read() = %q, %d; want ErrDown", s, e)
		}
		counts(t, r, 5, 3, 4)
	}
	m.On()
	counts(t, r, 5, 3, 4)
	holds(t, r, "abcde")
}

// P5.1: an Append, a Sync and a Trim use the power once, also where they change nothing; no other call does.
func TestUses(t *testing.T) {
	calls := []func(r *reel.Reel) api.Errno{
		func(r *reel.Reel) api.Errno { return r.Append("ab") },
		func(r *reel.Reel) api.Errno { return r.Append("") },
		func(r *reel.Reel) api.Errno { return r.Sync() },
		func(r *reel.Reel) api.Errno { return r.Sync() },
		func(r *reel.Reel) api.Errno { return r.Trim(r.Len()) },
		func(r *reel.Reel) api.Errno { return r.Trim(1) },
		func(r *reel.Reel) api.Errno { return r.Trim(0) },
	}
	after := []string{"ab", "ab", "ab", "ab", "ab", "a", ""}
	for n := range len(calls) + 1 {
		m := mains.New()
		r := reel.New(m, 4)
		m.Fuse(n)
		for i, call := range calls[:n] {
			want(t, "a call", call(r), api.OK)
			holds(t, r, after[i])
			r.Len()
			r.Safe()
			r.Left()
			want(t, "Settle", r.Settle(1), api.ErrState)
		}
		if !m.IsOn() {
			t.Fatalf("the power went behind %d uses", n)
		}
		want(t, "a call", calls[n%len(calls)](r), api.ErrDown)
		if m.IsOn() {
			t.Fatalf("a call behind %d uses left the power there", n)
		}
	}
}

// P5.1: power that goes at a use has it not be done: the bytes stay, and what wasn't safe isn't.
func TestGoesAtUse(t *testing.T) {
	for i, call := range []func(r *reel.Reel) api.Errno{
		func(r *reel.Reel) api.Errno { return r.Append("fg") },
		func(r *reel.Reel) api.Errno { return r.Append("") },
		func(r *reel.Reel) api.Errno { return r.Sync() },
		func(r *reel.Reel) api.Errno { return r.Trim(5) },
		func(r *reel.Reel) api.Errno { return r.Trim(4) },
		func(r *reel.Reel) api.Errno { return r.Trim(2) },
		func(r *reel.Reel) api.Errno { return r.Trim(0) },
	} {
		m, r := made(t, 9, "abc", "de")
		m.Fuse(0)
		if e := call(r); e != api.ErrDown || m.IsOn() {
			t.Fatalf("call %d: %d, IsOn() = %v; want ErrDown", i, e, m.IsOn())
		}
		counts(t, r, 5, 3, 4)
		m.On()
		holds(t, r, "abcde")
		m.Fuse(0)
		want(t, "a call", call(r), api.ErrDown)
		want(t, "Settle", r.Settle(1), api.OK)
		counts(t, r, 4, 4, 5)
		m.On()
		holds(t, r, "abcd")
	}
}

// P5.2: while the power is there nothing is settled, also behind a fuse that has let nothing go yet, and when it came again.
func TestSettleWhileThere(t *testing.T) {
	m, r := made(t, 9, "abc", "de")
	for range 3 {
		for _, keep := range ends() {
			want(t, "Settle", r.Settle(keep), api.ErrState)
		}
		m.Fuse(0)
		want(t, "Settle", r.Settle(0), api.ErrState)
		counts(t, r, 5, 3, 4)
		holds(t, r, "abcde")
		m.Off()
		m.On()
	}
}

// P5.2: with nothing that isn't safe nothing is lost, whatever is to stay; twice settled is once settled.
func TestSettleNothing(t *testing.T) {
	m, r := made(t, 9, "abc", "")
	m.Off()
	for _, keep := range ends() {
		want(t, "Settle", r.Settle(keep), api.OK)
		counts(t, r, 3, 3, 6)
	}
	m.On()
	holds(t, r, "abc")
	want(t, "Append", r.Append("defg"), api.OK)
	m.Off()
	for _, keep := range append([]int{2}, ends()...) {
		want(t, "Settle", r.Settle(keep), api.OK)
		counts(t, r, 5, 5, 4)
	}
	m.On()
	holds(t, r, "abcde")
}

// stays is how many of n bytes stay, told by numbers without bounds: a number below 0 is 2^64 more.
func stays(keep, n int) int {
	k := big.NewInt(int64(keep))
	if keep < 0 {
		k.Add(k, new(big.Int).Lsh(big.NewInt(1), 64))
	}
	return int(k.Mod(k, big.NewInt(int64(n)+1)).Int64())
}

// P5.2: of each number of bytes that aren't safe each number of first ones stays, over and over as keep grows, and none else; all are safe then, and there is room for what went.
func TestSettleEach(t *testing.T) {
	const size = 60
	for _, safe := range []int{0, 1, 5} {
		for n := range 34 {
			data := mixed(n, safe+n)
			for keep := range 3*n + 5 {
				m, r := made(t, size, data[:safe], data[safe:])
				lose(t, m, r, keep)
				left := safe + keep%(n+1)
				counts(t, r, left, left, size-left)
				holds(t, r, data[:left])
				lose(t, m, r, 0)
				holds(t, r, data[:left])
				want(t, "Append", r.Append(mixed(99, size-left)), api.OK)
				holds(t, r, data[:left]+mixed(99, size-left))
			}
		}
	}
}

// keeps is numbers of every kind: the ends, each bit alone, all but one, and some below 0 and above.
func keeps() []int {
	list := append(ends(), 0x5555555555555555, -0x5555555555555555, 0x123456789ABCDEF, -0x123456789ABCDEF, -3, -4, -5, -6, -7)
	for bit := range 64 {
		list = append(list, 1<<bit, ^(1 << bit))
	}
	return list
}

// P5.2: keep is a number without a sign: one below 0 is 2^64 more than it, also where that is no multiple of how many may stay.
func TestSettleSign(t *testing.T) {
	for _, n := range []int{0, 1, 2, 3, 4, 5, 6, 7, 8, 9, 14, 15, 16, 17, 63, 64, 99, 255, 256, 640, 641, 1000, 65535, 65536, api.MaxLog - 4, api.MaxLog - 3} {
		data := "abc" + mixed(n, n)
		m := mains.New()
		r := reel.New(m, len(data))
		for _, keep := range keeps() {
			want(t, "Append", r.Append(data[:3]), api.OK)
			want(t, "Sync", r.Sync(), api.OK)
			want(t, "Append", r.Append(data[3:]), api.OK)
			lose(t, m, r, keep)
			left := 3 + stays(keep, n)
			counts(t, r, left, left, len(data)-left)
			holds(t, r, data[:left])
			want(t, "Trim", r.Trim(0), api.OK)
		}
	}
}

// P5.2: some of those by numbers written out: 2^64 - 1 is 0 modulo 3 and 5 and 1 modulo 2 and 7, 2^63 is 2 modulo 3 and 3 modulo 5.
func TestSettleWritten(t *testing.T) {
	for _, c := range []struct{ keep, n, left int }{
		{-1, 1, 1}, {-1, 2, 0}, {-1, 3, 3}, {-1, 4, 0}, {-1, 6, 1}, {-2, 1, 0}, {-2, 2, 2}, {-2, 4, 4},
		{math.MinInt, 1, 0}, {math.MinInt, 2, 2}, {math.MinInt, 4, 3}, {math.MaxInt, 2, 1}, {math.MaxInt, 4, 2}, {math.MaxInt, 6, 0},
	} {
		data := "abcdefg"[:c.n]
		m, r := made(t, 7, "", data)
		lose(t, m, r, c.keep)
		if s, _ := r.Read(); s != data[:c.left] {
			t.Fatalf("Settle(%d) of %q leaves %q; want %q", c.keep, data, s, data[:c.left])
		}
	}
}

// P5.2: the chapter's example.
func TestExample(t *testing.T) {
	m := mains.New()
	r := reel.New(m, 100)
	want(t, "Append", r.Append("abc"), api.OK)
	want(t, "Sync", r.Sync(), api.OK)
	want(t, "Append", r.Append("de"), api.OK)
	m.Off()
	want(t, "Settle", r.Settle(1), api.OK)
	m.On()
	holds(t, r, "abcd")
}

// P5.3: what was synced, and what a Settle left, stays, at whichever use the power goes; what is there behind it is a beginning of what was appended.
func TestSyncedStays(t *testing.T) {
	pieces := []string{"ab", "", "cde", "f", "gh", "ijkl", "", "mn"}
	whole := strings.Join(pieces, "")
	for every := 1; every <= len(pieces)+1; every++ {
		for uses := range 3 * len(pieces) {
			for keep := -1; keep < 10; keep++ {
				m := mains.New()
				r := reel.New(m, 20)
				m.Fuse(uses)
				synced, given := 0, 0
				for i, s := range pieces {
					if r.Append(s) == api.OK {
						given += len(s)
					}
					if i%every == every-1 && r.Sync() == api.OK {
						synced = given
					}
				}
				counts(t, r, given, synced, 20-given)
				lose(t, m, r, keep)
				s, e := r.Read()
				if e != api.OK || len(s) < synced || len(s) > given || s != whole[:len(s)] {
					t.Fatalf("%d uses, keep %d: %q, %d; want %q, and a beginning of %q", uses, keep, s, e, whole[:synced], whole[synced:given])
				}
			}
		}
	}
}

// P5.3: what is safe is lost by no number of losses behind it, also where others were added and went.
func TestManyLosses(t *testing.T) {
	m, r := made(t, 40, "abc", "de")
	lose(t, m, r, 1)
	data := "abcd"
	for _, keep := range keeps() {
		lose(t, m, r, keep)
		holds(t, r, data)
		want(t, "Append", r.Append("xyz"), api.OK)
		want(t, "Append", r.Append("w"), api.OK)
		lose(t, m, r, keep)
		data += "xyzw"[:stays(keep, 4)]
		counts(t, r, len(data), len(data), 40-len(data))
		holds(t, r, data)
		if len(data) > 36 {
			data = data[:4]
			want(t, "Trim", r.Trim(4), api.OK)
		}
	}
}

// P5.2, P5.3: power that goes and comes without a Settle takes nothing, and makes nothing safe.
func TestOffAndOn(t *testing.T) {
	for keep := range 3 {
		m, r := made(t, 9, "abc", "de")
		for range 3 {
			m.Off()
			counts(t, r, 5, 3, 4)
			m.On()
			counts(t, r, 5, 3, 4)
			holds(t, r, "abcde")
		}
		lose(t, m, r, keep)
		holds(t, r, "abcde"[:3+keep])
	}
}

// Rule 5: a reel that isn't there at all answers ErrNil, ahead of all else, and 0.
func TestNil(t *testing.T) {
	var r *reel.Reel
	for _, s := range []string{"", "a", strings.Repeat("a", api.MaxLog+1)} {
		want(t, "Append", r.Append(s), api.ErrNil)
	}
	for _, n := range ends() {
		want(t, "Trim", r.Trim(n), api.ErrNil)
		want(t, "Settle", r.Settle(n), api.ErrNil)
	}
	want(t, "Sync", r.Sync(), api.ErrNil)
	if s, e := r.Read(); s != "" || e != api.ErrNil {
		t.Fatalf("Read() = %q, %d; want ErrNil", s, e)
	}
	counts(t, r, 0, 0, 0)
}

// P1: no call of a reel on no power panics, whatever it answers.
func TestNoPower(t *testing.T) {
	r := reel.New(nil, 3)
	for _, n := range append(ends(), 3, 4) {
		r.Append("")
		r.Append("abc")
		r.Append("abcd")
		r.Sync()
		r.Trim(n)
		r.Read()
		r.Settle(n)
		r.Len()
		r.Safe()
		r.Left()
	}
}

// Rule 3: what Read answers is new: whatever comes behind it doesn't change it.
func TestReadIsNew(t *testing.T) {
	m, r := made(t, 64, "abc", "def")
	s, e := r.Read()
	want(t, "Read", e, api.OK)
	want(t, "Trim", r.Trim(1), api.OK)
	want(t, "Append", r.Append("uvwxyz"), api.OK)
	lose(t, m, r, 2)
	want(t, "Append", r.Append("12"), api.OK)
	if s != "abcdef" {
		t.Fatalf("an answer became %q", s)
	}
	holds(t, r, "auv12")
}

// Rule 4: two reels on one power share the power alone; on two powers nothing.
func TestTwo(t *testing.T) {
	m := mains.New()
	a, b, c := reel.New(m, 6), reel.New(m, 7), reel.New(mains.New(), 8)
	m.Fuse(3)
	want(t, "Append", a.Append("abc"), api.OK)
	want(t, "Append", b.Append("de"), api.OK)
	want(t, "Append", b.Append("fg"), api.OK)
	want(t, "Sync", a.Sync(), api.ErrDown)
	want(t, "Append", b.Append("h"), api.ErrDown)
	want(t, "Append", c.Append("ijk"), api.OK)
	want(t, "Settle", c.Settle(0), api.ErrState)
	want(t, "Settle", a.Settle(1), api.OK)
	counts(t, a, 1, 1, 5)
	counts(t, b, 4, 0, 3)
	counts(t, c, 3, 0, 5)
	want(t, "Settle", b.Settle(3), api.OK)
	m.On()
	for i, s := range []string{"a", "def", "ijk"} {
		holds(t, []*reel.Reel{a, b, c}[i], s)
	}
}

// move is a call that changes a reel, or its power.
type move struct {
	name string
	n    int
	data string
}

// String is a move as it can be looked at, whatever its bytes.
func (v move) String() string {
	return fmt.Sprintf("%s(%d, %q)", v.name, v.n, v.data)
}

// moves is the calls that are tried in each order.
func moves() []move {
	return []move{
		{"Append", 0, "a"}, {"Append", 0, "bcd"}, {"Append", 0, ""}, {name: "Sync"}, {"Trim", 0, ""}, {"Trim", 2, ""}, {"Trim", 4, ""},
		{"Settle", 0, ""}, {"Settle", 2, ""}, {"Settle", -1, ""}, {name: "Off"}, {name: "On"}, {"Fuse", 1, ""},
	}
}

// twin is a reel told in another way: what is safe, and each byte behind it alone.
type twin struct {
	power *mains.Mains
	room  int
	safe  string
	rest  []string
}

// all is all bytes.
func (w *twin) all() string {
	return w.safe + strings.Join(w.rest, "")
}

// do does one move, and tells what it is answered.
func (w *twin) do(v move) api.Errno {
	all := w.all()
	switch v.name {
	case "Append":
		if len(all+v.data) > w.room {
			return api.ErrFull
		}
		e := w.power.Use()
		for i := 0; i < len(v.data) && e == api.OK; i++ {
			w.rest = append(w.rest, v.data[i:i+1])
		}
		return e
	case "Sync":
		e := w.power.Use()
		if e == api.OK {
			w.safe, w.rest = all, nil
		}
		return e
	case "Trim":
		if v.n < 0 || v.n > len(all) {
			return api.ErrArg
		}
		e := w.power.Use()
		if e == api.OK {
			w.safe, w.rest = all[:v.n], nil
		}
		return e
	case "Settle":
		if w.power.IsOn() {
			return api.ErrState
		}
		for range stays(v.n, len(w.rest)) {
			w.safe, w.rest = w.safe+w.rest[0], w.rest[1:]
		}
		w.rest = nil
	}
	return turn(w.power, v)
}

// turn does a move of the power; nothing, if it is none.
func turn(m *mains.Mains, v move) api.Errno {
	switch v.name {
	case "Off":
		m.Off()
	case "On":
		m.On()
	case "Fuse":
		m.Fuse(v.n)
	}
	return api.OK
}

// do does one move with a reel, and tells what it is answered.
func do(m *mains.Mains, r *reel.Reel, v move) api.Errno {
	switch v.name {
	case "Append":
		return r.Append(v.data)
	case "Sync":
		return r.Sync()
	case "Trim":
		return r.Trim(v.n)
	case "Settle":
		return r.Settle(v.n)
	}
	return turn(m, v)
}

// judge tells where moves, from the beginning on, come to something else with a reel than with its twin.
func judge(t *testing.T, room int, list []move) {
	t.Helper()
	m := mains.New()
	r, w := reel.New(m, room), &twin{power: mains.New(), room: room}
	for _, v := range list {
		if e, other := do(m, r, v), w.do(v); e != other {
			t.Fatalf("%v: %d; want %d", list, e, other)
		}
	}
	all := w.all()
	if r.Len() != len(all) || r.Safe() != len(w.safe) || r.Left() != room-len(all) {
		t.Fatalf("%v: Len() = %d, Safe() = %d, Left() = %d; want %d, %d, %d", list, r.Len(), r.Safe(), r.Left(), len(all), len(w.safe), room-len(all))
	}
	if m.IsOn() != w.power.IsOn() {
		t.Fatalf("%v: IsOn() = %v", list, m.IsOn())
	}
	m.On()
	if s, e := r.Read(); s != all || e != api.OK {
		t.Fatalf("%v: Read() = %q, %d; want %q", list, s, e, all)
	}
}

// P5.1, P5.2, P5.3: every order of a few calls with a reel of room for five.
func TestEveryOrder(t *testing.T) {
	var grow func(list []move)
	grow = func(list []move) {
		judge(t, 5, list)
		if len(list) == 5 {
			return
		}
		for _, v := range moves() {
			grow(append(list, v))
		}
	}
	grow(make([]move, 0, 5))
}

// P1, P5.1, P5.2, P5.3: many calls, with a reel of room for as many as the first byte tells.
func FuzzPlay(f *testing.F) {
	f.Add([]byte{})
	f.Add([]byte{9, 0, 3, 1, 0, 0, 2, 4, 0, 3, 1, 5, 0})
	f.Add([]byte{200, 0, 50, 1, 0, 0, 7, 2, 55, 0, 6, 4, 0, 3, 170, 5, 0, 0, 9})
	f.Add([]byte{255, 6, 2, 0, 255, 1, 9, 0, 1, 3, 255, 5, 9, 2, 255, 2, 4})
	f.Fuzz(func(t *testing.T, b []byte) {
		if len(b) == 0 {
			return
		}
		room, b := int(b[0]), b[1:]
		var list []move
		for ; len(b) > 1 && len(list) < 300; b = b[2:] {
			v := move{name: []string{"Append", "Sync", "Trim", "Settle", "Off", "On", "Fuse"}[b[0]%7], n: int(int8(b[1]))}
			switch v.name {
			case "Append":
				v.data = mixed(len(list), int(b[1])/(1+int(b[0])/7))
			case "Trim":
				v.n = int(b[1]) - int(b[0])/7
			case "Settle":
				v.n *= 0x0102040810204081
			}
			list = append(list, v)
		}
		judge(t, room, list)
	})
}
