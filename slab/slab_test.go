package slab_test

import (
	"math"
	"slices"
	"strings"
	"testing"

	"gauger/api"
	"gauger/mains"
	"gauger/slab"
)

// fill is the bytes of a page that hold one byte all over.
func fill(b byte) string {
	return strings.Repeat(string([]byte{b}), api.PageSize)
}

// mixed is the bytes of a page among which there is no plain rule.
func mixed(n int) string {
	b := make([]byte, api.PageSize)
	x := uint32(n + 1)
	for i := range b {
		x = x*1664525 + 1013904223
		b[i] = byte(x >> 24)
	}
	return string(b)
}

// write tells where one of the pages can't be written with what data makes of its number.
func write(t *testing.T, d *slab.Disk, data func(page int) string, list ...int) {
	t.Helper()
	for _, i := range list {
		if e := d.Write(i, data(i)); e != api.OK {
			t.Fatalf("Write(%d) = %d; want OK", i, e)
		}
	}
}

// old and young make bytes of pages' numbers: no two of them make the same.
func old(page int) string   { return mixed(page) }
func young(page int) string { return mixed(page + 1000) }

// want tells where an answer isn't the expected error.
func want(t *testing.T, what string, e, expected api.Errno) {
	t.Helper()
	if e != expected {
		t.Fatalf("%s: %d; want %d", what, e, expected)
	}
}

// fresh tells where the pages that aren't safe are others; asked twice, since asking changes nothing.
func fresh(t *testing.T, d *slab.Disk, list ...int) {
	t.Helper()
	for range 2 {
		if got := d.Fresh(); !slices.Equal(got, list) {
			t.Fatalf("Fresh() = %v; want %v", got, list)
		}
	}
}

// holds tells where a page isn't read with the bytes that it has to have.
func holds(t *testing.T, d *slab.Disk, page int, data string) {
	t.Helper()
	for range 2 {
		if s, e := d.Read(page); s != data || e != api.OK {
			t.Fatalf("Read(%d) = %q, %d; want %q, OK", page, s, e, data)
		}
	}
}

// count is the numbers from 0 on, below n.
func count(n int) []int {
	list := make([]int, n)
	for i := range list {
		list[i] = i
	}
	return list
}

// P4.1: a disk has as many pages as it was told, from none to MaxPages, the nearest of others; they have no bytes, and are safe.
func TestNew(t *testing.T) {
	for _, c := range []struct{ told, pages int }{
		{0, 0}, {1, 1}, {2, 2}, {61, 61}, {62, 62}, {63, 63}, {255, 255}, {256, 256},
		{257, 256}, {258, 256}, {512, 256}, {1 << 32, 256}, {1<<32 + 3, 256}, {math.MaxInt - 1, 256}, {math.MaxInt, 256},
		{-1, 0}, {-2, 0}, {-256, 0}, {-1 << 32, 0}, {3 - 1<<32, 0}, {math.MinInt + 1, 0}, {math.MinInt, 0},
	} {
		d := slab.New(mains.New(), c.told)
		if d == nil || d.Len() != c.pages {
			t.Fatalf("New(%d) has %d pages; want %d", c.told, d.Len(), c.pages)
		}
		fresh(t, d)
		for i := range c.pages {
			holds(t, d, i, "")
		}
		if _, e := d.Read(c.pages); e != api.ErrArg {
			t.Fatalf("New(%d): the page behind the last one is read: %d", c.told, e)
		}
	}
}

// P4.1: a disk of no pages has none to be written or read; it is synced, and settled, all the same.
func TestNoPages(t *testing.T) {
	for _, n := range []int{0, -1, math.MinInt} {
		m := mains.New()
		d := slab.New(m, n)
		for _, i := range []int{-1, 0, 1} {
			want(t, "Write", d.Write(i, fill('a')), api.ErrArg)
			_, e := d.Read(i)
			want(t, "Read", e, api.ErrArg)
		}
		want(t, "Sync", d.Sync(), api.OK)
		want(t, "Settle", d.Settle(1), api.ErrState)
		m.Fuse(1)
		want(t, "Sync", d.Sync(), api.OK)
		want(t, "Sync", d.Sync(), api.ErrDown)
		want(t, "Settle", d.Settle(1), api.OK)
		fresh(t, d)
	}
}

// P4.1: each page, the first and the last of MaxPages too, has the bytes that it was written with, and no other one has.
func TestWrite(t *testing.T) {
	for _, n := range []int{1, 2, 63, api.MaxPages, api.MaxPages + 9} {
		d := slab.New(mains.New(), n)
		n = d.Len()
		for i := n - 1; i >= 0; i-- {
			write(t, d, old, i)
			holds(t, d, i, old(i))
			fresh(t, d, count(n)[i:]...)
			if i > 0 {
				holds(t, d, i-1, "")
			}
		}
		for i := range n {
			holds(t, d, i, old(i))
		}
		want(t, "Sync", d.Sync(), api.OK)
		fresh(t, d)
		for i := range n {
			holds(t, d, i, old(i))
			write(t, d, young, i)
			holds(t, d, i, young(i))
			fresh(t, d, count(n)[:i+1]...)
		}
	}
}

// P4.1: a page's bytes may be any, as long as there are PageSize of them.
func TestAnyBytes(t *testing.T) {
	d := slab.New(mains.New(), 2)
	all := make([]byte, 256)
	for b := range 256 {
		all[b] = byte(b)
		want(t, "Write", d.Write(1, fill(byte(b))), api.OK)
		holds(t, d, 1, fill(byte(b)))
	}
	for _, s := range []string{string(all), strings.Repeat("ü", 128), strings.Repeat("\xed\xa0\x80\xff", 64), strings.Repeat("\x00", 255) + "\n"} {
		want(t, "Write", d.Write(0, s), api.OK)
		holds(t, d, 0, s)
		want(t, "Sync", d.Sync(), api.OK)
		holds(t, d, 0, s)
	}
}

// misses is the numbers that are no page's of a disk of n pages.
func misses(n int) []int {
	return []int{-1, -2, -n, -n - 1, n, n + 1, 256, 257, 1 << 32, 1<<32 + 1, -1 << 32, 1 - 1<<32, math.MinInt, math.MinInt + 1, math.MaxInt, math.MaxInt - 1}
}

// sizes is how many bytes no page can have.
func sizes() []int {
	return []int{0, 1, 2, 128, api.PageSize - 1, api.PageSize + 1, 2 * api.PageSize, 1 << 16, 1<<16 + api.PageSize}
}

// P4.1: what can't be written is ErrArg, ahead of the power, which isn't used, and changes nothing.
func TestWriteWrong(t *testing.T) {
	for _, on := range []bool{true, false} {
		m := mains.New()
		d := slab.New(m, 3)
		write(t, d, old, 0)
		want(t, "Sync", d.Sync(), api.OK)
		write(t, d, young, 0, 1)
		m.Fuse(1)
		if !on {
			m.Off()
		}
		for _, i := range misses(3) {
			want(t, "Write", d.Write(i, fill('z')), api.ErrArg)
			want(t, "Write", d.Write(i, ""), api.ErrArg)
		}
		for _, n := range sizes() {
			for i := range 3 {
				want(t, "Write", d.Write(i, strings.Repeat("z", n)), api.ErrArg)
			}
		}
		// 256 runes aren't 256 bytes.
		want(t, "Write", d.Write(0, strings.Repeat("ü", api.PageSize)), api.ErrArg)
		fresh(t, d, 0, 1)
		if on {
			want(t, "Sync", d.Sync(), api.OK)
			want(t, "Sync", d.Sync(), api.ErrDown)
		}
		m.On()
		for i, s := range []string{young(0), young(1), ""} {
			holds(t, d, i, s)
		}
	}
}

// P4.1: of what is no page nothing is read: ErrArg, ahead of ErrDown.
func TestReadWrong(t *testing.T) {
	for _, n := range []int{0, 1, 3, 255} {
		for _, on := range []bool{true, false} {
			m := mains.New()
			d := slab.New(m, n)
			write(t, d, old, count(n)...)
			if !on {
				m.Off()
			}
			for _, i := range misses(n) {
				if s, e := d.Read(i); s != "" || e != api.ErrArg {
					t.Fatalf("Read(%d) of %d = %q, %d; want ErrArg", i, n, s, e)
				}
			}
		}
	}
}

// P4.1: while the power is away nothing is written, synced or read; what was there is there when it comes again, not safe still.
func TestDown(t *testing.T) {
	m := mains.New()
	d := slab.New(m, 3)
	write(t, d, old, 0)
	want(t, "Sync", d.Sync(), api.OK)
	write(t, d, young, 1)
	m.Off()
	for range 2 {
		for i := range 3 {
			want(t, "Write", d.Write(i, fill('z')), api.ErrDown)
			if s, e := d.Read(i); s != "" || e != api.ErrDown {
				t.Fatalf("Read(%d) = %q, %d; want ErrDown", i, s, e)
			}
		}
		want(t, "Sync", d.Sync(), api.ErrDown)
	}
	fresh(t, d, 1)
	if d.Len() != 3 {
		t.Fatalf("Len() = %d; want 3", d.Len())
	}
	m.On()
	fresh(t, d, 1)
	for i, s := range []string{old(0), young(1), ""} {
		holds(t, d, i, s)
	}
}

// P4.1: a Write and a Sync use the power once; no other call does.
func TestUses(t *testing.T) {
	for n := range 7 {
		m := mains.New()
		d := slab.New(m, 2)
		m.Fuse(n)
		was := ""
		for i := range n {
			holds(t, d, 0, was)
			d.Fresh()
			d.Len()
			want(t, "Settle", d.Settle(1), api.ErrState)
			if i%2 == 0 {
				write(t, d, old, 0)
				fresh(t, d, 0)
				was = old(0)
			} else {
				want(t, "Sync", d.Sync(), api.OK)
				fresh(t, d)
			}
		}
		if !m.IsOn() {
			t.Fatalf("the power went behind %d uses", n)
		}
		want(t, "Write", d.Write(0, young(0)), api.ErrDown)
		if m.IsOn() {
			t.Fatalf("a Write behind %d uses left the power there", n)
		}
	}
}

// P4.1: power that goes at a use has it not be done: the bytes stay, and what wasn't safe isn't.
func TestGoesAtUse(t *testing.T) {
	m := mains.New()
	d := slab.New(m, 3)
	write(t, d, old, 0, 1)
	want(t, "Sync", d.Sync(), api.OK)
	write(t, d, young, 1)
	m.Fuse(0)
	want(t, "Write", d.Write(0, fill('z')), api.ErrDown)
	fresh(t, d, 1)
	m.On()
	holds(t, d, 0, old(0))
	m.Fuse(0)
	want(t, "Sync", d.Sync(), api.ErrDown)
	fresh(t, d, 1)
	want(t, "Settle", d.Settle(0), api.OK)
	m.On()
	for i, s := range []string{old(0), old(1), ""} {
		holds(t, d, i, s)
	}
}

// P4.1, P4.2: a page that is written again with what it has isn't safe; it is what it was, whether it stays or not.
func TestSameBytes(t *testing.T) {
	for keep := range 2 {
		m := mains.New()
		d := slab.New(m, 2)
		write(t, d, old, 1)
		want(t, "Sync", d.Sync(), api.OK)
		write(t, d, old, 1)
		fresh(t, d, 1)
		m.Off()
		want(t, "Settle", d.Settle(keep), api.OK)
		fresh(t, d)
		m.On()
		holds(t, d, 1, old(1))
	}
}

// P4.2: a page that was written again and again between two syncs stays as it was written last, or is what it was when it was safe last: nothing between.
func TestWrittenTwice(t *testing.T) {
	for _, first := range []bool{true, false} {
		for keep := range 2 {
			m := mains.New()
			d := slab.New(m, 1)
			ahead := ""
			if !first {
				ahead = old(0)
				write(t, d, old, 0)
				want(t, "Sync", d.Sync(), api.OK)
			}
			for _, b := range []byte{'x', 'y', 'z'} {
				want(t, "Write", d.Write(0, fill(b)), api.OK)
				holds(t, d, 0, fill(b))
				fresh(t, d, 0)
			}
			m.Off()
			want(t, "Settle", d.Settle(keep), api.OK)
			m.On()
			holds(t, d, 0, []string{ahead, fill('z')}[keep])
			fresh(t, d)
		}
	}
}

// P4.2: while the power is there nothing is settled, also behind a fuse that has let nothing go yet, and when it came again.
func TestSettleWhileThere(t *testing.T) {
	m := mains.New()
	d := slab.New(m, 3)
	for range 2 {
		for _, keep := range []int{0, 1, -1, math.MinInt, math.MaxInt} {
			want(t, "Settle", d.Settle(keep), api.ErrState)
		}
		write(t, d, young, 0, 2)
		m.Fuse(0)
		want(t, "Settle", d.Settle(0), api.ErrState)
		fresh(t, d, 0, 2)
		holds(t, d, 0, young(0))
		holds(t, d, 1, "")
		m.Off()
		m.On()
	}
}

// P4.2: with no page that isn't safe nothing is lost, whatever is to stay; twice settled is once settled.
func TestSettleNothing(t *testing.T) {
	m := mains.New()
	d := slab.New(m, 3)
	write(t, d, old, 0, 1)
	want(t, "Sync", d.Sync(), api.OK)
	m.Off()
	for _, keep := range []int{0, 1, 2, 7, -1, math.MinInt, math.MaxInt} {
		want(t, "Settle", d.Settle(keep), api.OK)
		fresh(t, d)
	}
	m.On()
	write(t, d, young, 0, 1, 2)
	m.Off()
	for _, keep := range []int{2, 0, 5, 0} {
		want(t, "Settle", d.Settle(keep), api.OK)
		fresh(t, d)
	}
	m.On()
	for i, s := range []string{old(0), young(1), ""} {
		holds(t, d, i, s)
	}
}

// keeps is bits of every kind: none, each alone, all, all but one, each other one, and those of numbers below 0.
func keeps() []int {
	list := []int{0, -1, math.MinInt, math.MinInt + 1, math.MaxInt, math.MaxInt - 1, 0x5555555555555555, -0x5555555555555555, 0x123456789ABCDEF, -0x123456789ABCDEF, 1<<62 - 1, 1<<62 + 1, -1 << 62, 1<<32 - 1, -1 << 32}
	for bit := range 64 {
		list = append(list, 1<<bit, ^(1 << bit))
	}
	return list
}

// stays tells whether the bit k modulo 62 of a number is one, by its digits: two's complement, so that a number below 0 has what 2^64 more has.
func stays(keep, k int) bool {
	n := uint64(keep)
	for range k % 62 {
		n /= 2
	}
	return n%2 == 1
}

// settled is the numbers of pages that are tried with each of keeps: those up to, about and behind 62, twice 62, and four times.
func settled() []int {
	return []int{1, 2, 3, 31, 32, 33, 61, 62, 63, 64, 65, 123, 124, 125, 126, 186, 187, 248, 249, 255, 256}
}

// P4.2: of as many pages that aren't safe as there may be just those stay whose bits are one; all are safe then.
func TestSettleBits(t *testing.T) {
	for _, n := range settled() {
		m := mains.New()
		d := slab.New(m, n)
		write(t, d, old, count(n)...)
		want(t, "Sync", d.Sync(), api.OK)
		was := make([]string, n)
		for i := range was {
			was[i] = old(i)
		}
		for round, keep := range keeps() {
			for i := range n {
				s := fill(byte(round))[:api.PageSize-2] + string([]byte{byte(i), 'n'})
				want(t, "Write", d.Write(i, s), api.OK)
				if stays(keep, i) {
					was[i] = s
				}
			}
			fresh(t, d, count(n)...)
			m.Off()
			want(t, "Settle", d.Settle(keep), api.OK)
			fresh(t, d)
			m.On()
			for i := range n {
				holds(t, d, i, was[i])
			}
		}
	}
}

// P4.2: the bits count the pages that aren't safe, by rising numbers, however they were written: neither all pages, nor the order of the writes.
func TestSettleByRank(t *testing.T) {
	list := []int{200, 3, 77, 255, 4, 0}
	rising := []int{0, 3, 4, 77, 200, 255}
	for keep := range 1 << len(list) {
		m := mains.New()
		d := slab.New(m, api.MaxPages)
		write(t, d, old, 4, 5, 77, 78)
		want(t, "Sync", d.Sync(), api.OK)
		write(t, d, young, list...)
		fresh(t, d, rising...)
		m.Off()
		want(t, "Settle", d.Settle(keep), api.OK)
		m.On()
		fresh(t, d)
		for i := range api.MaxPages {
			s := ""
			if slices.Contains([]int{4, 5, 77, 78}, i) {
				s = old(i)
			}
			if k := slices.Index(rising, i); k >= 0 && keep>>k&1 == 1 {
				s = young(i)
			}
			holds(t, d, i, s)
		}
	}
}

// P4.2: the chapter's example.
func TestExample(t *testing.T) {
	m := mains.New()
	d := slab.New(m, 2)
	write(t, d, old, 0, 1)
	m.Off()
	want(t, "Settle", d.Settle(2), api.OK)
	m.On()
	holds(t, d, 0, "")
	holds(t, d, 1, old(1))
}

// P4.3: what was synced, and what a Settle left, is safe: no loss behind it takes it, till its page is written again; then it is what the page falls back to.
func TestSafeStays(t *testing.T) {
	m := mains.New()
	d := slab.New(m, 4)
	lose := func(keep int) {
		m.Off()
		want(t, "Settle", d.Settle(keep), api.OK)
		m.On()
	}
	write(t, d, old, 0, 1)
	want(t, "Sync", d.Sync(), api.OK)
	write(t, d, young, 1, 2, 3)
	lose(5)
	after := []string{old(0), young(1), "", young(3)}
	for _, keep := range keeps() {
		lose(keep)
		for i, s := range after {
			holds(t, d, i, s)
		}
	}
	for _, keep := range keeps() {
		for i := range 4 {
			want(t, "Write", d.Write(i, fill('z')), api.OK)
		}
		lose(keep &^ 15)
		for i, s := range after {
			holds(t, d, i, s)
		}
	}
	m.Fuse(2)
	want(t, "Write", d.Write(0, fill('z')), api.OK)
	want(t, "Write", d.Write(1, fill('z')), api.OK)
	want(t, "Sync", d.Sync(), api.ErrDown)
	lose(0)
	for i, s := range after {
		holds(t, d, i, s)
	}
}

// P4.1, P4.3: power that goes and comes without a Settle takes nothing, and makes nothing safe.
func TestOffAndOn(t *testing.T) {
	for keep := range 2 {
		m := mains.New()
		d := slab.New(m, 2)
		write(t, d, old, 0)
		want(t, "Sync", d.Sync(), api.OK)
		write(t, d, young, 0)
		for range 3 {
			m.Off()
			fresh(t, d, 0)
			m.On()
			fresh(t, d, 0)
			holds(t, d, 0, young(0))
		}
		m.Off()
		want(t, "Settle", d.Settle(keep), api.OK)
		m.On()
		holds(t, d, 0, []string{old(0), young(0)}[keep])
	}
}

// Rule 5: a disk that isn't there at all answers ErrNil, ahead of all else, and nothing.
func TestNil(t *testing.T) {
	var d *slab.Disk
	for _, i := range []int{-1, 0, 1, 255, 256, math.MinInt, math.MaxInt} {
		want(t, "Write", d.Write(i, fill('a')), api.ErrNil)
		want(t, "Write", d.Write(i, ""), api.ErrNil)
		if s, e := d.Read(i); s != "" || e != api.ErrNil {
			t.Fatalf("Read(%d) = %q, %d; want ErrNil", i, s, e)
		}
		want(t, "Settle", d.Settle(i), api.ErrNil)
		want(t, "Sync", d.Sync(), api.ErrNil)
		fresh(t, d)
		if d.Len() != 0 {
			t.Fatalf("Len() = %d; want 0", d.Len())
		}
	}
}

// P1: no call of a disk on no power panics, whatever it answers.
func TestNoPower(t *testing.T) {
	d := slab.New(nil, 3)
	for _, i := range append(misses(3), 0, 1, 2) {
		d.Write(i, fill('a'))
		d.Read(i)
		d.Settle(i)
		d.Sync()
		d.Fresh()
	}
	if d.Len() != 3 {
		t.Fatalf("Len() = %d; want 3", d.Len())
	}
}

// Rule 3: what Fresh answers is new: whoever changes it, or adds to it, changes no disk.
func TestFreshIsNew(t *testing.T) {
	d := slab.New(mains.New(), 9)
	write(t, d, old, 2, 5, 7)
	a, b := d.Fresh(), d.Fresh()
	for i := range a {
		a[i] = -1
	}
	_ = append(a[:1], 8, 8)
	if !slices.Equal(b, []int{2, 5, 7}) {
		t.Fatalf("an answer became %v", b)
	}
	fresh(t, d, 2, 5, 7)
	write(t, d, old, 0)
	if !slices.Equal(b, []int{2, 5, 7}) {
		t.Fatalf("an answer became %v", b)
	}
}

// Rule 4: two disks on one power share the power alone; on two powers nothing.
func TestTwo(t *testing.T) {
	m := mains.New()
	a, b, c := slab.New(m, 2), slab.New(m, 2), slab.New(mains.New(), 2)
	m.Fuse(3)
	write(t, a, old, 0)
	write(t, b, young, 0, 1)
	want(t, "Sync", a.Sync(), api.ErrDown)
	want(t, "Write", b.Write(0, fill('z')), api.ErrDown)
	write(t, c, young, 1)
	want(t, "Settle", c.Settle(0), api.ErrState)
	want(t, "Settle", a.Settle(0), api.OK)
	fresh(t, a)
	fresh(t, b, 0, 1)
	fresh(t, c, 1)
	want(t, "Settle", b.Settle(2), api.OK)
	m.On()
	for i, s := range []string{"", "", "", young(1), "", young(1)} {
		holds(t, []*slab.Disk{a, b, c}[i/2], i%2, s)
	}
}

// move is a call that changes a disk, or its power.
type move struct {
	name string
	n    int
	data string
}

// moves is the calls that are tried in each order.
func moves() []move {
	return []move{
		{"Write", 0, fill('a')}, {"Write", 0, fill('b')}, {"Write", 1, fill('c')}, {"Write", 2, fill('d')}, {"Write", 1, "e"},
		{name: "Sync"}, {"Settle", 0, ""}, {"Settle", 1, ""}, {"Settle", 2, ""}, {name: "Off"}, {name: "On"}, {"Fuse", 1, ""},
	}
}

// twin is a disk told in another way: of each page all that it was since it was safe last, which stands first.
type twin struct {
	power *mains.Mains
	pages [][]string
}

// newTwin is a twin of n pages.
func newTwin(n int) *twin {
	w := &twin{power: mains.New()}
	for range n {
		w.pages = append(w.pages, []string{""})
	}
	return w
}

// do does one move, and tells what it is answered.
func (w *twin) do(v move) api.Errno {
	switch v.name {
	case "Write":
		if v.n < 0 || v.n >= len(w.pages) || len(v.data) != 256 {
			return api.ErrArg
		}
		e := w.power.Use()
		if e == api.OK {
			w.pages[v.n] = append(w.pages[v.n], v.data)
		}
		return e
	case "Sync":
		e := w.power.Use()
		if e == api.OK {
			w.end(func(int) bool { return true })
		}
		return e
	case "Settle":
		if w.power.IsOn() {
			return api.ErrState
		}
		w.end(func(k int) bool { return stays(v.n, k) })
	}
	return turn(w.power, v)
}

// end has each page that isn't safe be its last, if it stays, else its first.
func (w *twin) end(stay func(k int) bool) {
	k := 0
	for i, list := range w.pages {
		if len(list) == 1 {
			continue
		}
		if stay(k) {
			w.pages[i] = list[len(list)-1:]
		} else {
			w.pages[i] = list[:1:1]
		}
		k++
	}
}

// fresh is the pages that aren't safe.
func (w *twin) fresh() []int {
	var list []int
	for i, p := range w.pages {
		if len(p) > 1 {
			list = append(list, i)
		}
	}
	return list
}

// turn does a move of the power; nothing, if it is none.
func turn(m *mains.Mains, v move) api.Errno {
	switch v.name {
	case "Off":
		m.Off()
	case "On":
		m.On()
	case "Fuse":
		m.Fuse(v.n)
	}
	return api.OK
}

// do does one move with a disk, and tells what it is answered.
func do(m *mains.Mains, d *slab.Disk, v move) api.Errno {
	switch v.name {
	case "Write":
		return d.Write(v.n, v.data)
	case "Sync":
		return d.Sync()
	case "Settle":
		return d.Settle(v.n)
	}
	return turn(m, v)
}

// judge tells where moves, from the beginning on, come to something else with a disk than with its twin.
func judge(t *testing.T, pages int, list []move) {
	t.Helper()
	m := mains.New()
	d, w := slab.New(m, pages), newTwin(pages)
	for _, v := range list {
		if e, other := do(m, d, v), w.do(v); e != other {
			t.Fatalf("%v: %d; want %d", list, e, other)
		}
	}
	if !slices.Equal(d.Fresh(), w.fresh()) {
		t.Fatalf("%v: Fresh() = %v; want %v", list, d.Fresh(), w.fresh())
	}
	if m.IsOn() != w.power.IsOn() {
		t.Fatalf("%v: IsOn() = %v", list, m.IsOn())
	}
	m.On()
	for i, p := range w.pages {
		if s, e := d.Read(i); s != p[len(p)-1] || e != api.OK {
			t.Fatalf("%v: Read(%d) = %q, %d; want %q", list, i, s, e, p[len(p)-1])
		}
	}
}

// P4.1, P4.2, P4.3: every order of a few calls with a disk of two pages.
func TestEveryOrder(t *testing.T) {
	var grow func(list []move)
	grow = func(list []move) {
		judge(t, 2, list)
		if len(list) == 5 {
			return
		}
		for _, v := range moves() {
			grow(append(list, v))
		}
	}
	grow(make([]move, 0, 5))
}

// P1, P4.1, P4.2, P4.3: many calls, with a disk of as many pages as the first byte tells.
func FuzzPlay(f *testing.F) {
	f.Add([]byte{})
	f.Add([]byte{2, 0, 0, 1, 0, 1, 2, 3, 0, 2, 2})
	f.Add([]byte{200, 0, 5, 1, 1, 0, 0, 7, 2, 0, 6, 1, 3, 0, 2, 170, 4, 0})
	f.Add([]byte{255, 5, 1, 0, 3, 9, 0, 4, 9, 2, 255, 4, 0, 1, 0})
	f.Fuzz(func(t *testing.T, b []byte) {
		if len(b) == 0 {
			return
		}
		pages, b := int(b[0]), b[1:]
		var list []move
		for ; len(b) > 1 && len(list) < 300; b = b[2:] {
			v := move{name: []string{"Write", "Sync", "Settle", "Off", "On", "Fuse"}[b[0]%6], n: int(int8(b[1]))}
			switch {
			case v.name == "Write":
				v.n, v.data = int(b[1]), fill(b[0])
			case v.name == "Settle":
				v.n *= 0x0102040810204081
			}
			list = append(list, v)
		}
		judge(t, pages, list)
	})
}
