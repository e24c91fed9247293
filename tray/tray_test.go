package tray_test

import (
	"fmt"
	"math"
	"reflect"
	"slices"
	"strings"
	"testing"

	"gauger/api"
	"gauger/diary"
	"gauger/mains"
	"gauger/node"
	"gauger/reel"
	"gauger/slab"
	"gauger/tray"
)

// greatest is the greatest stamp.
const greatest = 1<<31 - 1

// leaf is a leaf with an entry or several, another one for another number.
func leaf(n int) api.Node {
	var list []api.Entry
	for i := range n%4 + 1 {
		list = append(list, api.Entry{Key: fmt.Sprintf("key%03d%03d", i, n%1000), Val: strings.Repeat("v", n%7), Ghost: i == 2})
	}
	return api.Node{Tree: n % 256, Right: n / 3 % 256, List: list}
}

// sized is a leaf that takes n bytes of its page, from 253 - 100 to 353.
func sized(n int) api.Node {
	left := n - 20 - 3*11
	var list []api.Entry
	for i := range 3 {
		size := min(left, 100)
		left -= size
		list = append(list, api.Entry{Key: fmt.Sprintf("key%06d", i), Val: strings.Repeat("x", size)})
	}
	return api.Node{List: list}
}

// samples is nodes that fit, of many kinds.
func samples() []api.Node {
	list := []api.Node{
		{},
		{Tree: 255, Level: 12, HasHigh: true, High: strings.Repeat("\xff", 9), Right: 255, List: []api.Entry{node.Lead(node.Low, 7), node.Lead("ccccccccc", 300)}},
		{HasHigh: true, High: node.Low},
		sized(252),
	}
	for n := range 12 {
		list = append(list, leaf(n*37))
	}
	return list
}

// impossible is nodes that can't be on a page, whatever their Stamp.
func impossible() []api.Node {
	return []api.Node{
		sized(253), sized(300), {Tree: -1}, {Tree: 256}, {Level: -1}, {Level: 13}, {Right: -1}, {Right: 256}, {Tree: math.MinInt}, {Right: math.MaxInt},
		{High: "aaaaaaaaa"}, {HasHigh: true}, {HasHigh: true, High: "aaaaaaaa"},
		{List: []api.Entry{{Key: "short"}}}, {List: []api.Entry{{Key: "bbbbbbbbb"}, {Key: "aaaaaaaaa"}}}, {List: []api.Entry{{Key: "bbbbbbbbb"}, {Key: "bbbbbbbbb"}}},
		{List: []api.Entry{{Key: "aaaaaaaaa", Val: strings.Repeat("v", 101)}}}, {HasHigh: true, High: "aaaaaaaaa", List: []api.Entry{{Key: "aaaaaaaaa"}}},
		{Level: 1, List: []api.Entry{{Key: "aaaaaaaaa"}}}, {Level: 1, List: []api.Entry{{Key: "aaaaaaaaa", Val: "xy", Ghost: true}}}, {List: make([]api.Entry, 1000)},
	}
}

// rig is a tray, with the power, the disk, the reel and the log that it is on.
type rig struct {
	testing.TB
	power *mains.Mains
	disk  *slab.Disk
	reel  *reel.Reel
	log   *diary.Log
	tray  *tray.Tray
}

// build is a tray over so many pages without bytes, and an empty log.
func build(t testing.TB, pages int) *rig {
	t.Helper()
	m := mains.New()
	g := &rig{TB: t, power: m, disk: slab.New(m, pages), reel: reel.New(m, api.MaxLog)}
	g.open()
	return g
}

// open has the log be opened, and a tray be new.
func (g *rig) open() {
	g.Helper()
	l, _, e := diary.Open(g.reel)
	g.want("Open", e, api.OK)
	g.log, g.tray = l, tray.New(g.disk, l)
}

// lose has the power go and come again, with what is kept of the disk and of the reel; the tray is new.
func (g *rig) lose(disk, log int) {
	g.Helper()
	g.power.Off()
	g.want("Settle", g.disk.Settle(disk), api.OK)
	g.want("Settle", g.reel.Settle(log), api.OK)
	g.power.On()
	g.open()
}

// want tells where an answer isn't the expected error.
func (g *rig) want(what string, e, expected api.Errno) {
	g.Helper()
	if e != expected {
		g.Fatalf("%s: %d; want %d", what, e, expected)
	}
}

// add has the log have one more record; its stamp. None is safe, till it is forced.
func (g *rig) add() int {
	g.Helper()
	stamp, e := g.log.Add(api.Record{Kind: api.RecSystem})
	g.want("Add", e, api.OK)
	return stamp
}

// put puts nodes, by turns a page and its node's number, by a stamp.
func (g *rig) put(stamp int, list ...int) {
	g.Helper()
	var changes []api.Change
	for ; len(list) > 1; list = list[2:] {
		changes = append(changes, api.Change{Page: list[0], Node: leaf(list[1])})
	}
	g.want("Put", g.tray.Put(stamp, changes...), api.OK)
}

// write has the disk have a page, and not safe, behind the tray's back.
func (g *rig) write(page int, data string) {
	g.Helper()
	g.want("Write", g.disk.Write(page, data), api.OK)
}

// evict, flush and sync are the tray's calls, where they are to go well.
func (g *rig) evict(page int) { g.Helper(); g.want("Evict", g.tray.Evict(page), api.OK) }
func (g *rig) flush()         { g.Helper(); g.want("Flush", g.tray.Flush(), api.OK) }
func (g *rig) sync()          { g.Helper(); g.want("Sync", g.tray.Sync(), api.OK) }

// held tells where not just these pages are at hand; asked twice, since asking changes nothing.
func (g *rig) held(pages ...int) {
	g.Helper()
	for range 2 {
		if list := g.tray.Held(); !slices.Equal(list, pages) {
			g.Fatalf("Held() = %v; want %v", list, pages)
		}
	}
}

// dirty tells where not just these pages are dirty, by turns a page and the first stamp that it lacks.
func (g *rig) dirty(list ...int) {
	g.Helper()
	for range 2 {
		var told []int
		for _, d := range g.tray.Dirty() {
			told = append(told, d.Page, d.First)
		}
		if !slices.Equal(told, list) {
			g.Fatalf("Dirty() = %v; want %v", told, list)
		}
	}
}

// node tells where a page's node isn't n, with a stamp.
func (g *rig) node(page, stamp int, n api.Node) {
	g.Helper()
	n.Stamp = stamp
	for range 2 {
		if got, e := g.tray.Node(page); e != api.OK || !same(got, n) {
			g.Fatalf("Node(%d) = %+v, %d; want %+v", page, got, e, n)
		}
	}
}

// none tells where a page's node isn't refused with an error.
func (g *rig) none(page int, expected api.Errno) {
	g.Helper()
	if n, e := g.tray.Node(page); e != expected || !reflect.DeepEqual(n, api.Node{}) {
		g.Fatalf("Node(%d) = %+v, %d; want none, %d", page, n, e, expected)
	}
}

// has tells where the disk hasn't a node, with a stamp, as a page.
func (g *rig) has(page, stamp int, n api.Node) {
	g.Helper()
	n.Stamp = stamp
	if data, e := g.disk.Read(page); e != api.OK || data != bytesOf(g, n) {
		g.Fatalf("the page %d isn't %+v", page, n)
	}
}

// bare tells where one of these pages of the disk has bytes.
func (g *rig) bare(pages ...int) {
	g.Helper()
	for _, page := range pages {
		if data, e := g.disk.Read(page); e != api.OK || data != "" {
			g.Fatalf("the page %d has bytes, or %d", page, e)
		}
	}
}

// fresh tells where not just these pages of the disk aren't safe.
func (g *rig) fresh(pages ...int) {
	g.Helper()
	if list := g.disk.Fresh(); !slices.Equal(list, pages) {
		g.Fatalf("Fresh() = %v; want %v", list, pages)
	}
}

// uses tells where a call doesn't use the power just so often.
func (g *rig) uses(what string, n int, call func()) {
	g.Helper()
	const fuse = 1000
	g.power.Fuse(fuse)
	call()
	left := 0
	for g.power.Use() == api.OK {
		left++
	}
	g.power.On()
	if left != fuse-n {
		g.Fatalf("%s used the power %d times; want %d", what, fuse-left, n)
	}
}

// behind tells where a page on the disk isn't behind its record: one that the log has, and that isn't safe.
func (g *rig) behind() {
	g.Helper()
	on := g.power.IsOn()
	for page := range g.disk.Len() {
		g.power.On()
		data, e := g.disk.Read(page)
		g.want("Read", e, api.OK)
		if data == "" {
			continue
		}
		n, e := node.Read(data)
		g.want("node.Read", e, api.OK)
		if _, ok := g.log.At(n.Stamp); ok && !g.log.IsSafe(n.Stamp) {
			g.Fatalf("the page %d is on the disk by the record %d, which isn't safe", page, n.Stamp)
		}
	}
	if !on {
		g.power.Off()
	}
}

// bytesOf is a node's page.
func bytesOf(t testing.TB, n api.Node) string {
	t.Helper()
	data, e := node.Bytes(n)
	if e != api.OK {
		t.Fatalf("Bytes(%+v): %d", n, e)
	}
	return data
}

// turned is bytes of which one has its lowest bit turned.
func turned(s string, at int) string {
	b := []byte(s)
	b[at] ^= 1
	return string(b)
}

// same tells whether two nodes are the same, lists of nothing alike.
func same(a, b api.Node) bool {
	return fmt.Sprintf("%+v", a) == fmt.Sprintf("%+v", b)
}

// outside is numbers that are no page of a disk of so many.
func outside(pages int) []int {
	return []int{-1, -2, -256, pages, pages + 1, 256, 1 << 16, math.MinInt, math.MinInt32, math.MaxInt32, 1 << 32, math.MaxInt}
}

// P9.3: the chapter's example.
func TestExample(t *testing.T) {
	g := build(t, 4)
	g.put(30, 3, 5)
	g.dirty(3, 30)
	g.evict(3)
	g.dirty(3, 30)
	g.sync()
	g.dirty()
	g = build(t, 4)
	g.put(30, 3, 5)
	g.dirty(3, 30)
	g.flush()
	g.dirty()
}

// P9.1: a new tray has nothing at hand, all is clean, whatever the disk has; and New works on neither the disk nor the log.
func TestNew(t *testing.T) {
	for _, pages := range []int{0, 1, 4, 256} {
		g := build(t, pages)
		stamp := g.add()
		for page := 0; page < pages; page += 2 {
			g.write(page, bytesOf(t, leaf(page)))
		}
		before := g.disk.Fresh()
		g.uses("New", 0, func() { g.tray = tray.New(g.disk, g.log) })
		g.held()
		g.dirty()
		g.fresh(before...)
		if g.log.IsSafe(stamp) {
			t.Fatal("New forced the log")
		}
	}
}

// P9.1: a page of no bytes is the node without anything, and at hand then, clean; that doesn't use the power.
func TestNodeOfNothing(t *testing.T) {
	g := build(t, 256)
	g.uses("Node", 0, func() {
		for page := range 256 {
			g.node(page, 0, api.Node{})
		}
	})
	g.dirty()
	if list := g.tray.Held(); len(list) != 256 || list[0] != 0 || list[255] != 255 {
		t.Fatalf("Held() = %v", list)
	}
	g.fresh()
}

// P9.1: a page that was written is the node that was, also when it isn't safe, and at hand then, clean: what the disk has later plays no part.
func TestNodeOfBytes(t *testing.T) {
	for _, n := range samples() {
		for _, stamp := range []int{0, 1, 77, greatest} {
			g := build(t, 3)
			n.Stamp = stamp
			g.write(1, bytesOf(t, n))
			g.uses("Node", 0, func() { g.node(1, stamp, n) })
			g.held(1)
			g.dirty()
			g.write(1, bytesOf(t, leaf(999)))
			g.node(1, stamp, n)
			g.power.Off()
			g.node(1, stamp, n)
			g.power.On()
			g.evict(1)
			g.node(1, 0, leaf(999))
		}
	}
}

// P9.1: a page whose bytes are no node's is ErrForm, and isn't at hand then; when it is another one, it is read.
func TestNodeForm(t *testing.T) {
	page := bytesOf(t, leaf(3))
	for _, data := range []string{strings.Repeat("\x00", 256), strings.Repeat("\xff", 256), page[1:] + page[:1], turned(page, 0), turned(page, 100), turned(page, 255)} {
		g := build(t, 3)
		g.write(2, data)
		g.none(2, api.ErrForm)
		g.none(2, api.ErrForm)
		g.held()
		g.dirty()
		g.write(2, page)
		g.node(2, 0, leaf(3))
		g.held(2)
		// What is at hand ahead of such bytes stays.
		g.write(2, data)
		g.node(2, 0, leaf(3))
	}
}

// P9.1: a page that the disk hasn't is ErrArg, with and without power; one that isn't at hand is ErrDown without; nothing is at hand then.
func TestNodeErrors(t *testing.T) {
	for _, pages := range []int{0, 1, 4} {
		g := build(t, pages)
		for _, on := range []bool{true, false} {
			if !on {
				g.power.Off()
			}
			for _, page := range outside(pages) {
				g.none(page, api.ErrArg)
			}
		}
		for page := range pages {
			g.none(page, api.ErrDown)
		}
		g.held()
		g.power.On()
		for page := range pages {
			g.node(page, 0, api.Node{})
		}
	}
}

// P9.1: the pages at hand rise, whatever the order in which they were put, read and evicted.
func TestHeld(t *testing.T) {
	g := build(t, 256)
	g.held()
	g.put(1, 200, 1)
	g.held(200)
	g.put(1, 255, 1, 3, 2, 100, 4, 3, 5)
	g.held(3, 100, 200, 255)
	g.node(0, 0, api.Node{})
	g.node(150, 0, api.Node{})
	g.held(0, 3, 100, 150, 200, 255)
	g.dirty(3, 1, 100, 1, 200, 1, 255, 1)
	g.evict(100)
	g.evict(0)
	g.evict(255)
	g.held(3, 150, 200)
	g.node(255, 1, leaf(1))
	g.held(3, 150, 200, 255)
	all := build(t, 256)
	var pages []int
	for i := range 256 {
		all.put(1, i*99%256, i)
		pages = append(pages, i)
	}
	all.held(pages...)
	for i := range 256 {
		all.node(i*99%256, 1, leaf(i))
	}
}

// P9.2: each page has its node, with the stamp, whatever its own one was; the power isn't used, also where it is away, and the disk has nothing of it.
func TestPut(t *testing.T) {
	for _, stamp := range []int{1, 2, 30, greatest - 1, greatest} {
		for _, own := range []int{0, 1, greatest, -1, 1 << 31, math.MinInt, math.MaxInt} {
			g := build(t, 4)
			g.uses("Put", 0, func() {
				for _, n := range samples() {
					n.Stamp = own
					g.want("Put", g.tray.Put(stamp, api.Change{Page: 2, Node: n}), api.OK)
					g.node(2, stamp, n)
				}
			})
			g.held(2)
			g.dirty(2, stamp)
			g.power.Off()
			g.put(stamp, 0, 3)
			g.node(0, stamp, leaf(3))
			g.power.On()
			g.node(0, stamp, leaf(3))
			g.dirty(0, stamp, 2, stamp)
			g.bare(0, 1, 2, 3)
			g.fresh()
		}
	}
}

// P9.2: of no change, of one, of several; of the same page twice the later one stays; the nodes of the other pages stay as they are.
func TestPutSeveral(t *testing.T) {
	g := build(t, 5)
	g.put(7)
	g.held()
	g.dirty()
	g.put(8, 4, 1)
	g.put(9, 2, 2, 0, 3, 3, 4)
	g.held(0, 2, 3, 4)
	g.dirty(0, 9, 2, 9, 3, 9, 4, 8)
	g.put(10, 1, 5, 1, 6, 2, 7, 1, 8)
	g.node(0, 9, leaf(3))
	g.node(1, 10, leaf(8))
	g.node(2, 10, leaf(7))
	g.node(3, 9, leaf(4))
	g.node(4, 8, leaf(1))
	g.dirty(0, 9, 1, 10, 2, 9, 3, 9, 4, 8)
	g.flush()
	g.has(1, 10, leaf(8))
	g.has(2, 10, leaf(7))
}

// P9.2: what can't be is ErrArg, and changes nothing, wherever it stands among what can be, with and without power.
func TestPutErrors(t *testing.T) {
	g := build(t, 4)
	g.put(5, 1, 1, 2, 2)
	g.evict(2)
	refuse := func(what any, stamp int, list ...api.Change) {
		t.Helper()
		for _, on := range []bool{true, false} {
			if !on {
				g.power.Off()
			}
			if e := g.tray.Put(stamp, list...); e != api.ErrArg {
				t.Fatalf("%v: Put = %d; want ErrArg", what, e)
			}
			g.power.On()
		}
		g.held(1)
		g.dirty(1, 5, 2, 5)
		g.node(1, 5, leaf(1))
	}
	good := []api.Change{{Page: 3, Node: leaf(9)}, {Page: 1, Node: leaf(8)}, {Page: 0, Node: sized(252)}}
	for _, stamp := range []int{0, -1, -greatest, math.MinInt, 1 << 31, 1<<31 + 1, 1 << 32, 1<<32 + 5, math.MaxInt} {
		refuse(stamp, stamp)
		refuse(stamp, stamp, good...)
	}
	var wrong []api.Change
	for _, page := range outside(4) {
		wrong = append(wrong, api.Change{Page: page, Node: leaf(1)})
	}
	for _, n := range impossible() {
		wrong = append(wrong, api.Change{Page: 1, Node: n})
	}
	for _, c := range wrong {
		refuse(c, 6, c)
		refuse(c, 0, c)
		for at := range len(good) + 1 {
			refuse(c, 6, slices.Insert(slices.Clone(good), at, c)...)
		}
	}
	none := build(t, 0)
	if e := none.tray.Put(1, api.Change{}); e != api.ErrArg {
		t.Fatalf("Put of a disk of no pages: %d", e)
	}
	none.put(1)
}

// P9.2: a node of just 252 bytes fits, and is written; one of a byte more doesn't.
func TestPutSizes(t *testing.T) {
	for size := 200; size < 300; size++ {
		g := build(t, 1)
		n := sized(size)
		if node.Size(n) != size {
			t.Fatalf("%d bytes; want %d", node.Size(n), size)
		}
		e := g.tray.Put(3, api.Change{Node: n})
		if size > 252 {
			g.want("Put", e, api.ErrArg)
			g.held()
			continue
		}
		g.want("Put", e, api.OK)
		g.flush()
		g.has(0, 3, n)
	}
}

// P9.3: a page that was put is written by Evict, behind its record, and isn't at hand any more; it is dirty till the Sync, and read as it was.
func TestEvict(t *testing.T) {
	g := build(t, 4)
	a, b, c := g.add(), g.add(), g.add()
	g.put(a, 1, 1, 2, 2)
	g.put(b, 3, 3)
	// The log is forced, and the page is written.
	g.uses("Evict", 2, func() { g.evict(2) })
	g.held(1, 3)
	g.has(2, a, leaf(2))
	g.bare(0, 1, 3)
	g.fresh(2)
	g.dirty(1, a, 2, a, 3, b)
	if !g.log.IsSafe(a) || !g.log.IsSafe(c) {
		t.Fatal("the log wasn't forced")
	}
	// The record is safe: only the page is written.
	g.uses("Evict", 1, func() { g.evict(3) })
	g.held(1)
	g.has(3, b, leaf(3))
	g.node(2, a, leaf(2))
	g.dirty(1, a, 2, a, 3, b)
	g.sync()
	g.dirty(1, a)
	g.fresh()
}

// P9.3: a page that wasn't put isn't written, also where the power is away: it just isn't at hand any more.
func TestEvictUnput(t *testing.T) {
	g := build(t, 4)
	stamp := g.add()
	n := leaf(5)
	n.Stamp = stamp
	g.write(1, bytesOf(t, n))
	g.sync()
	g.node(1, stamp, n)
	g.node(2, 0, api.Node{})
	g.node(3, 0, api.Node{})
	g.uses("Evict", 0, func() {
		g.evict(1)
		g.evict(2)
	})
	g.power.Off()
	g.evict(3)
	g.power.On()
	g.held()
	g.dirty()
	g.fresh()
	g.bare(2, 3)
	if g.log.IsSafe(stamp) {
		t.Fatal("the log was forced")
	}
	// A page that was put is so too, once it was written and read again.
	g.put(stamp, 0, 7)
	g.evict(0)
	g.node(0, stamp, leaf(7))
	g.uses("Evict", 0, func() { g.evict(0) })
	g.dirty(0, stamp)
	g.sync()
	g.node(0, stamp, leaf(7))
	g.uses("Evict", 0, func() { g.evict(0) })
	g.dirty()
}

// P9.3: a page that isn't at hand is ErrArg, whether the disk has it or not, with and without power; nothing is changed.
func TestEvictArg(t *testing.T) {
	g := build(t, 4)
	g.put(9, 1, 1, 2, 2)
	g.evict(2)
	for _, on := range []bool{true, false} {
		if !on {
			g.power.Off()
		}
		for _, page := range append(outside(4), 0, 2, 3) {
			g.want("Evict", g.tray.Evict(page), api.ErrArg)
		}
		g.held(1)
		g.dirty(1, 9, 2, 9)
		g.fresh(2)
	}
}

// P9.3: where the log has no record of the stamp, it isn't forced: the page is written all the same.
func TestWriteWithoutRecord(t *testing.T) {
	for _, stamp := range []int{2, 29, 59, 1000, greatest} {
		g := build(t, 2)
		a, b := g.add(), g.add()
		g.put(stamp, 0, 1, 1, 2)
		g.uses("Evict", 1, func() { g.evict(0) })
		g.uses("Flush", 2, func() { g.flush() })
		g.has(0, stamp, leaf(1))
		g.has(1, stamp, leaf(2))
		g.dirty()
		if g.log.IsSafe(a) || g.log.IsSafe(b) {
			t.Fatalf("the log was forced for the stamp %d", stamp)
		}
	}
}

// P9.3: the record of the last Put is forced, not that of an earlier one.
func TestForceOfTheLastStamp(t *testing.T) {
	g := build(t, 2)
	a := g.add()
	g.want("Force", g.log.Force(a), api.OK)
	b := g.add()
	g.put(a, 0, 1)
	g.put(b, 0, 2)
	g.uses("Evict", 2, func() { g.evict(0) })
	if !g.log.IsSafe(b) {
		t.Fatal("the record of the last Put isn't safe")
	}
	g.has(0, b, leaf(2))
	g.dirty(0, a)
	// Nor is the last record of the log, but the page's own.
	c := g.add()
	g.put(a, 1, 3)
	g.uses("Evict", 1, func() { g.evict(1) })
	if g.log.IsSafe(c) {
		t.Fatal("another record was forced")
	}
}

// P9.3: Flush writes what was put, and what was put again, and syncs; what was read, or written, isn't written; all stay at hand.
func TestFlush(t *testing.T) {
	g := build(t, 6)
	g.uses("Flush", 1, g.flush)
	g.node(1, 0, api.Node{})
	g.node(2, 0, api.Node{})
	g.uses("Flush", 1, g.flush)
	g.bare(0, 1, 2, 3, 4, 5)
	a, b := g.add(), g.add()
	g.put(a, 2, 1, 4, 2)
	g.put(b, 0, 3)
	g.put(greatest, 3, 4)
	// The log is forced once, four pages are written, the disk is synced.
	g.uses("Flush", 6, g.flush)
	g.has(2, a, leaf(1))
	g.has(4, a, leaf(2))
	g.has(0, b, leaf(3))
	g.has(3, greatest, leaf(4))
	g.bare(1, 5)
	g.held(0, 1, 2, 3, 4)
	g.dirty()
	g.fresh()
	g.uses("Flush", 1, g.flush)
	c := g.add()
	g.put(c, 4, 5)
	g.dirty(4, c)
	g.uses("Flush", 3, g.flush)
	g.has(4, c, leaf(5))
	g.dirty()
}

// P9.3: Flush has what was written, and evicted, be safe too.
func TestFlushOfEvicted(t *testing.T) {
	g := build(t, 3)
	g.put(5, 0, 1, 1, 2)
	g.evict(0)
	g.evict(1)
	g.held()
	g.dirty(0, 5, 1, 5)
	g.uses("Flush", 1, g.flush)
	g.dirty()
	g.fresh()
	g.has(0, 5, leaf(1))
}

// P9.3: Sync syncs the disk, whatever is at hand: what wasn't written stays dirty, and isn't written.
func TestSync(t *testing.T) {
	g := build(t, 3)
	g.uses("Sync", 1, g.sync)
	stamp := g.add()
	g.put(stamp, 0, 1)
	g.write(2, bytesOf(t, leaf(4)))
	g.uses("Sync", 1, g.sync)
	g.fresh()
	g.bare(0, 1)
	g.held(0)
	g.dirty(0, stamp)
	if g.log.IsSafe(stamp) {
		t.Fatal("Sync forced the log")
	}
}

// P9.3: the first stamp that a page lacks, behind each of Put, writing and Sync.
func TestDirty(t *testing.T) {
	g := build(t, 3)
	g.dirty()
	g.put(10, 1, 1)
	g.dirty(1, 10)
	// Put again: the first one counts, also where the later one is below it.
	g.put(20, 1, 2)
	g.put(5, 1, 3)
	g.dirty(1, 10)
	g.sync()
	g.dirty(1, 10)
	// Written, and put again, ahead of the Sync, and behind it.
	g.evict(1)
	g.dirty(1, 10)
	g.put(30, 1, 4)
	g.put(40, 1, 5)
	g.dirty(1, 10)
	g.sync()
	g.dirty(1, 30)
	g.sync()
	g.dirty(1, 30)
	// Put, written and put again several times.
	g.evict(1)
	g.put(50, 1, 6)
	g.evict(1)
	g.put(60, 1, 7)
	g.dirty(1, 30)
	g.sync()
	g.dirty(1, 60)
	// Written, and not put again.
	g.evict(1)
	g.dirty(1, 60)
	g.sync()
	g.dirty()
	// Clean, and put.
	g.put(70, 1, 8)
	g.dirty(1, 70)
	g.flush()
	g.dirty()
	// Read, and read again.
	g.node(1, 70, leaf(8))
	g.evict(1)
	g.node(1, 70, leaf(8))
	g.sync()
	g.dirty()
}

// P9.3: the same page twice in one Put, written, put twice in one Put again.
func TestDirtyTwice(t *testing.T) {
	g := build(t, 3)
	g.put(10, 1, 1, 1, 2, 0, 3)
	g.dirty(0, 10, 1, 10)
	g.evict(1)
	g.put(20, 1, 3, 1, 4)
	g.dirty(0, 10, 1, 10)
	g.sync()
	g.dirty(0, 10, 1, 20)
	g.flush()
	g.dirty()
	g.has(1, 20, leaf(4))
}

// P9.3: a Put of what the page is already is one all the same: the page is dirty, and is written.
func TestPutOfTheSame(t *testing.T) {
	g := build(t, 2)
	g.put(10, 1, 1)
	g.flush()
	g.put(10, 1, 1)
	g.dirty(1, 10)
	g.uses("Evict", 1, func() { g.evict(1) })
	g.fresh(1)
	g.dirty(1, 10)
	g.node(0, 0, api.Node{})
	g.want("Put", g.tray.Put(3, api.Change{}), api.OK)
	g.dirty(0, 3, 1, 10)
	g.uses("Flush", 2, g.flush)
	g.has(0, 3, api.Node{})
}

// P9.3: many pages are dirty, rising, whatever the order of the Puts.
func TestDirtyMany(t *testing.T) {
	g := build(t, 256)
	var all, odd []int
	for i := range 256 {
		g.put(1000+i, i*99%256, i)
	}
	for page := range 256 {
		// The page is i times 99, so that i is the page times the inverse of 99 modulo 256.
		all = append(all, page, 1000+page*75%256)
	}
	g.dirty(all...)
	for page := 0; page < 256; page += 2 {
		g.evict(page)
	}
	g.dirty(all...)
	g.sync()
	for page := 1; page < 256; page += 2 {
		odd = append(odd, page, 1000+page*75%256)
	}
	g.dirty(odd...)
	g.flush()
	g.dirty()
}

// P9.3: calls that begin while the power is away are ErrDown, where they'd use it, and change nothing, also when the power came again; then all goes on.
func TestAway(t *testing.T) {
	g := build(t, 6)
	a, b := g.add(), g.add()
	// 0 is clean, 1 was written, 2 was written and put again, 3 was put, 4 was put by no record, 5 isn't at hand.
	g.put(a, 0, 1)
	g.flush()
	g.put(b, 1, 2, 2, 3)
	g.evict(1)
	g.evict(2)
	g.node(1, b, leaf(2))
	c := g.add()
	g.put(c, 2, 4, 3, 5)
	g.put(greatest, 4, 6)
	look := func() {
		t.Helper()
		g.held(0, 1, 2, 3, 4)
		g.dirty(1, b, 2, b, 3, c, 4, greatest)
		g.fresh(1, 2)
		if g.log.IsSafe(c) {
			t.Fatal("the log was forced")
		}
		for page, stamp := range []int{a, b, c, c, greatest} {
			g.node(page, stamp, leaf([]int{1, 2, 4, 5, 6}[page]))
		}
	}
	look()
	g.power.Off()
	for range 2 {
		for _, page := range []int{2, 3, 4} {
			g.want("Evict", g.tray.Evict(page), api.ErrDown)
			look()
		}
		g.want("Sync", g.tray.Sync(), api.ErrDown)
		look()
		g.want("Flush", g.tray.Flush(), api.ErrDown)
		look()
		g.none(5, api.ErrDown)
		look()
	}
	g.power.On()
	look()
	g.flush()
	g.dirty()
	g.has(1, b, leaf(2))
	g.has(2, c, leaf(4))
	g.has(3, c, leaf(5))
	g.has(4, greatest, leaf(6))
	g.held(0, 1, 2, 3, 4)
}

// P9.3: the power goes in the midst of Evict: ahead of the record, or of the page: the page stays at hand, and is written when the power is there again.
func TestEvictLosesPower(t *testing.T) {
	for fuse := range 2 {
		g := build(t, 3)
		stamp := g.add()
		g.put(stamp, 1, 1)
		g.power.Fuse(fuse)
		g.want("Evict", g.tray.Evict(1), api.ErrDown)
		if g.log.IsSafe(stamp) != (fuse == 1) {
			t.Fatalf("IsSafe = %v behind %d uses", g.log.IsSafe(stamp), fuse)
		}
		g.held(1)
		g.dirty(1, stamp)
		g.node(1, stamp, leaf(1))
		g.fresh()
		g.power.On()
		g.bare(0, 1, 2)
		g.held(1)
		g.dirty(1, stamp)
		g.uses("Evict", 2-fuse, func() { g.evict(1) })
		g.has(1, stamp, leaf(1))
		g.sync()
		g.dirty()
	}
}

// P9.3: the power goes in the midst of Flush: the record is safe first, then the pages are written, rising, then they are safe; what was written isn't written again.
func TestFlushLosesPower(t *testing.T) {
	pages := []int{0, 2, 3, 5}
	for fuse := range 6 {
		g := build(t, 6)
		stamp := g.add()
		g.put(stamp, 3, 13, 5, 15, 0, 10, 2, 12)
		g.node(4, 0, api.Node{})
		g.power.Fuse(fuse)
		g.want("Flush", g.tray.Flush(), api.ErrDown)
		if g.log.IsSafe(stamp) != (fuse > 0) {
			t.Fatalf("IsSafe = %v behind %d uses", g.log.IsSafe(stamp), fuse)
		}
		written := max(fuse-1, 0)
		g.fresh(pages[:written]...)
		g.held(0, 2, 3, 4, 5)
		g.dirty(0, stamp, 2, stamp, 3, stamp, 5, stamp)
		g.power.On()
		for i, page := range pages {
			if i < written {
				g.has(page, stamp, leaf(10+page))
			} else {
				g.bare(page)
			}
		}
		g.bare(1, 4)
		g.uses("Flush", 6-fuse, g.flush)
		g.dirty()
		for _, page := range pages {
			g.has(page, stamp, leaf(10+page))
		}
	}
}

// P9.3: the power goes as Sync uses it: what was written is dirty still, and safe by the next one.
func TestSyncLosesPower(t *testing.T) {
	g := build(t, 3)
	g.put(7, 1, 1)
	g.evict(1)
	g.power.Fuse(0)
	g.want("Sync", g.tray.Sync(), api.ErrDown)
	g.dirty(1, 7)
	g.power.On()
	g.dirty(1, 7)
	g.fresh(1)
	g.sync()
	g.dirty()
}

// P9.3, P9.4: a log that is on other power, which is away: Evict and Flush answer its error, and the page isn't on the disk ahead of its record.
func TestLogWithoutPower(t *testing.T) {
	g := build(t, 3)
	m := mains.New()
	l, _, e := diary.Open(reel.New(m, 100))
	g.want("Open", e, api.OK)
	g.log, g.tray = l, tray.New(g.disk, l)
	stamp := g.add()
	g.put(stamp, 1, 1)
	m.Off()
	g.want("Evict", g.tray.Evict(1), api.ErrDown)
	g.want("Flush", g.tray.Flush(), api.ErrDown)
	g.sync()
	g.held(1)
	g.dirty(1, stamp)
	g.bare(0, 1, 2)
	m.On()
	g.flush()
	g.has(1, stamp, leaf(1))
	g.dirty()
}

// play is a script of calls that come to all there is to writing, and goes on, whatever they are answered; the nodes that each page was put.
func play(g *rig) map[int][]api.Node {
	all := map[int][]api.Node{}
	put := func(page, n int) {
		stamp, e := g.log.Add(api.Record{Kind: api.RecSystem, Deal: n})
		if e != api.OK {
			return
		}
		changed := leaf(n)
		g.want("Put", g.tray.Put(stamp, api.Change{Page: page, Node: changed}), api.OK)
		changed.Stamp = stamp
		all[page] = append(all[page], changed)
	}
	put(3, 1)
	put(1, 2)
	g.tray.Evict(3)
	put(3, 3)
	g.tray.Flush()
	put(0, 4)
	put(3, 5)
	g.tray.Evict(0)
	g.tray.Evict(3)
	put(0, 6)
	g.tray.Sync()
	put(2, 7)
	put(1, 8)
	g.tray.Evict(1)
	g.tray.Flush()
	put(2, 9)
	g.tray.Evict(2)
	return all
}

// P9.4: wherever the power goes no page is on the disk whose record isn't safe; whatever is kept, what was clean stays as it was, and a page that was dirty lacks nothing ahead of the first stamp that it was told to lack.
func TestEveryLoss(t *testing.T) {
	for fuse := range 40 {
		for disk := range 16 {
			for _, log := range []int{0, 1, 28, 29, 57, 58, 87, -1, -30} {
				g := build(t, 4)
				g.power.Fuse(fuse)
				all := play(g)
				g.power.Off()
				g.behind()
				dirty := g.tray.Dirty()
				g.lose(disk, log)
				g.behind()
				for page := range 4 {
					survives(g, page, all[page], dirty)
				}
			}
		}
	}
}

// survives tells where a page isn't, behind a loss, one of the nodes that it may be, of those that it was put, or is by a record that is lost.
func survives(g *rig, page int, all []api.Node, dirty []api.Dirty) {
	g.Helper()
	n, e := g.tray.Node(page)
	g.want("Node", e, api.OK)
	may := append([]api.Node{{}}, all...)
	least := len(all)
	for _, d := range dirty {
		if d.Page == page {
			least = slices.IndexFunc(all, func(n api.Node) bool { return n.Stamp == d.First })
		}
	}
	if least < 0 || !slices.ContainsFunc(may[least:], func(m api.Node) bool { return same(m, n) }) {
		g.Fatalf("the page %d is %+v; of %v it was dirty by %v", page, n, all, dirty)
	}
	if _, ok := g.log.At(n.Stamp); n.Stamp > 0 && !ok {
		g.Fatalf("the page %d is by the record %d, which is lost", page, n.Stamp)
	}
}

// P9.4: what is clean stays as it is, also when it is put again, and isn't written, or is put on no page of its own.
func TestCleanStays(t *testing.T) {
	for disk := range 8 {
		g := build(t, 3)
		g.put(5, 0, 1, 1, 2, 2, 3)
		g.flush()
		g.put(6, 1, 9)
		g.put(7, 2, 8)
		g.evict(2)
		g.dirty(1, 6, 2, 7)
		g.lose(disk, 0)
		g.node(0, 5, leaf(1))
		g.node(1, 5, leaf(2))
		if disk&1 == 0 {
			g.node(2, 5, leaf(3))
		} else {
			g.node(2, 7, leaf(8))
		}
	}
}

// A list that is handed in isn't changed, its spare room neither, nor kept: what the caller does with it later plays no part.
func TestHandedIn(t *testing.T) {
	g := build(t, 3)
	entries := leaf(3).List
	room := slices.Clone(entries)
	list := []api.Change{{Page: 1, Node: api.Node{Tree: 9, Stamp: 4, List: entries[:2]}}, {Page: 2, Node: api.Node{List: entries[2:2]}}, {Page: 0}}
	g.want("Put", g.tray.Put(8, list[:2]...), api.OK)
	if list[0].Node.Stamp != 4 || list[1].Node.Stamp != 0 || !reflect.DeepEqual(list[2], api.Change{}) || !slices.Equal(entries, room) {
		t.Fatal("Put changed what was handed in")
	}
	look := func() {
		t.Helper()
		g.held(1, 2)
		g.node(1, 8, api.Node{Tree: 9, List: room[:2]})
		g.node(2, 8, api.Node{})
	}
	look()
	clear(entries)
	list[0] = api.Change{}
	look()
	g.flush()
	g.has(1, 8, api.Node{Tree: 9, List: room[:2]})
}

// A refused Put changes nothing of what was handed in either.
func TestRefusedHandedIn(t *testing.T) {
	g := build(t, 3)
	list := []api.Change{{Page: 1, Node: leaf(3)}, {Page: 2, Node: sized(253)}}
	g.want("Put", g.tray.Put(8, list...), api.ErrArg)
	if !reflect.DeepEqual(list, []api.Change{{Page: 1, Node: leaf(3)}, {Page: 2, Node: sized(253)}}) {
		t.Fatal("Put changed what was handed in")
	}
}

// An answer is new memory: what the caller does with it plays no part, be the node put, read or of no bytes.
func TestAnswersAreNew(t *testing.T) {
	g := build(t, 4)
	g.write(0, bytesOf(t, leaf(7)))
	g.put(8, 1, 3, 2, 6)
	for range 2 {
		for _, page := range []int{0, 1, 2, 3} {
			n, e := g.tray.Node(page)
			g.want("Node", e, api.OK)
			other, _ := g.tray.Node(page)
			clear(n.List)
			_ = append(n.List[:0], api.Entry{Key: "zzzzzzzzz"}, api.Entry{Key: "zzzzzzzzz"})
			if len(other.List) > 0 && other.List[0].Key == "zzzzzzzzz" {
				t.Fatal("two answers share a list")
			}
		}
		g.node(0, 0, leaf(7))
		g.node(1, 8, leaf(3))
		g.node(2, 8, leaf(6))
		g.node(3, 0, api.Node{})
		held, dirty := g.tray.Held(), g.tray.Dirty()
		clear(held)
		clear(dirty)
		g.held(0, 1, 2, 3)
		g.dirty(1, 8, 2, 8)
	}
	g.flush()
	g.has(1, 8, leaf(3))
}

// A node that was answered, changed and put, is another one's: the two don't share what they hold.
func TestAnswerPutAgain(t *testing.T) {
	g := build(t, 3)
	g.put(8, 1, 3)
	n, _ := g.tray.Node(1)
	g.want("Put", g.tray.Put(9, api.Change{Page: 0, Node: n}, api.Change{Page: 2, Node: n}), api.OK)
	n.List[0].Val = "other"
	g.node(0, 9, leaf(3))
	g.node(1, 8, leaf(3))
	g.node(2, 9, leaf(3))
}

// Each method of no tray is ErrNil, ahead of all else, and answers nothing.
func TestNil(t *testing.T) {
	var none *tray.Tray
	for _, page := range append(outside(0), 0, 1, 255) {
		if n, e := none.Node(page); e != api.ErrNil || !reflect.DeepEqual(n, api.Node{}) {
			t.Fatalf("Node = %+v, %d", n, e)
		}
		if e := none.Evict(page); e != api.ErrNil {
			t.Fatalf("Evict: %d", e)
		}
		if e := none.Put(page, api.Change{Page: page}); e != api.ErrNil {
			t.Fatalf("Put: %d", e)
		}
	}
	if e := none.Put(0); e != api.ErrNil {
		t.Fatalf("Put: %d", e)
	}
	if e := none.Flush(); e != api.ErrNil {
		t.Fatalf("Flush: %d", e)
	}
	if e := none.Sync(); e != api.ErrNil {
		t.Fatalf("Sync: %d", e)
	}
	if len(none.Dirty()) != 0 || len(none.Held()) != 0 {
		t.Fatal("no tray has pages")
	}
}

// P1: a tray without a disk, or without a log, panics nowhere.
func TestWithoutDevices(t *testing.T) {
	g := build(t, 2)
	for _, y := range []*tray.Tray{tray.New(nil, nil), tray.New(nil, g.log), tray.New(g.disk, nil)} {
		for range 2 {
			y.Put(1)
			y.Put(1, api.Change{Page: 1, Node: leaf(1)})
			y.Node(0)
			y.Node(1)
			y.Evict(0)
			y.Evict(1)
			y.Flush()
			y.Sync()
			y.Dirty()
			y.Held()
		}
	}
}

// Trays of one disk, and of others, keep nothing of each other: each one has at hand, and has dirty, what went through it.
func TestTraysApart(t *testing.T) {
	g, h := build(t, 3), build(t, 3)
	other := tray.New(g.disk, g.log)
	g.put(5, 1, 1)
	h.put(6, 2, 2)
	if len(other.Held()) != 0 || len(other.Dirty()) != 0 {
		t.Fatal("one tray has what another one was given")
	}
	g.held(1)
	h.held(2)
	if n, e := other.Node(1); e != api.OK || !same(n, api.Node{}) {
		t.Fatalf("Node = %+v, %d, of what isn't on the disk", n, e)
	}
	g.flush()
	g.dirty()
	h.dirty(2, 6)
	if n, e := tray.New(g.disk, g.log).Node(1); e != api.OK || n.Stamp != 5 {
		t.Fatalf("Node = %+v, %d", n, e)
	}
}

// move is one call with a tray, or with the power of its devices.
type move struct {
	name  string
	pages []int
	n     int
}

// moves is those of which every order is tried.
func moves() []move {
	return []move{
		{name: "Put", pages: []int{0}}, {name: "Put", pages: []int{1}}, {name: "Put", pages: []int{1, 0, 1}}, {name: "Put", pages: []int{0, 3}}, {name: "Loose", pages: []int{0}},
		{name: "Evict", pages: []int{0}}, {name: "Evict", pages: []int{1}}, {name: "Flush"}, {name: "Sync"}, {name: "Node", pages: []int{0}},
		{name: "Off"}, {name: "On"}, {name: "Fuse", n: 1}, {name: "Fuse", n: 2}, {name: "Lose", n: 1},
	}
}

// twin is a tray told in another way: all nodes that each page was ever put, how many of these the disk was given, and how many of them it has safe.
type twin struct {
	g      *rig
	all    map[int][]api.Node
	given  map[int]int
	safe   map[int]int
	pages  map[int]api.Node
	loosed int
}

// double is a twin over devices of its own.
func double(t testing.TB, pages int) *twin {
	w := &twin{g: build(t, pages)}
	w.open()
	return w
}

// open has nothing be at hand, and all be clean.
func (w *twin) open() {
	w.g.open()
	w.all, w.given, w.safe, w.pages = map[int][]api.Node{}, map[int]int{}, map[int]int{}, map[int]api.Node{}
}

// changes is what a move puts: nodes that no other move did.
func changes(v move, turn int) []api.Change {
	var list []api.Change
	for i, page := range v.pages {
		list = append(list, api.Change{Page: page, Node: leaf(turn*5 + i)})
	}
	return list
}

// stamp is that of a new record, or, of a loose move, of none; 0, if there is no power for one.
func (g *rig) stamp(v move, turn int) int {
	if v.name == "Loose" {
		return 1<<30 + turn
	}
	stamp, _ := g.log.Add(api.Record{Kind: api.RecSystem, Deal: turn})
	return stamp
}

// put has pages have nodes, if there are all these pages.
func (w *twin) put(stamp int, list []api.Change) api.Errno {
	for _, c := range list {
		if stamp == 0 || c.Page >= w.g.disk.Len() {
			return api.ErrArg
		}
	}
	for _, c := range list {
		c.Node.Stamp = stamp
		w.all[c.Page] = append(w.all[c.Page], c.Node)
		w.pages[c.Page] = c.Node
	}
	return api.OK
}

// write gives the disk a page, if it wasn't given the last of its nodes.
func (w *twin) write(page int) api.Errno {
	all := w.all[page]
	if w.given[page] == len(all) {
		return api.OK
	}
	last := all[len(all)-1]
	if _, ok := w.g.log.At(last.Stamp); ok {
		if e := w.g.log.Force(last.Stamp); e != api.OK {
			return e
		}
	}
	if e := w.g.disk.Write(page, bytesOf(w.g, last)); e != api.OK {
		return e
	}
	w.given[page] = len(all)
	return api.OK
}

// sync has safe what was given.
func (w *twin) sync() api.Errno {
	e := w.g.disk.Sync()
	if e == api.OK {
		for page, n := range w.given {
			w.safe[page] = n
		}
	}
	return e
}

// flush gives the disk all that is at hand.
func (w *twin) flush() api.Errno {
	for page := range w.g.disk.Len() {
		if _, ok := w.pages[page]; ok {
			if e := w.write(page); e != api.OK {
				return e
			}
		}
	}
	return w.sync()
}

// evict gives the disk a page, and has it not be at hand.
func (w *twin) evict(page int) api.Errno {
	if _, ok := w.pages[page]; !ok {
		return api.ErrArg
	}
	e := w.write(page)
	if e == api.OK {
		delete(w.pages, page)
	}
	return e
}

// node has a page be at hand.
func (w *twin) node(page int) api.Errno {
	if _, ok := w.pages[page]; ok {
		return api.OK
	}
	data, e := w.g.disk.Read(page)
	if e != api.OK {
		return e
	}
	w.pages[page] = api.Node{}
	if data != "" {
		w.pages[page], _ = node.Read(data)
	}
	return api.OK
}

// do does one move, and tells what it is answered.
func (w *twin) do(v move, turn int) api.Errno {
	switch v.name {
	case "Put", "Loose":
		return w.put(w.g.stamp(v, turn), changes(v, turn))
	case "Evict":
		return w.evict(v.pages[0])
	case "Flush":
		return w.flush()
	case "Sync":
		return w.sync()
	case "Node":
		return w.node(v.pages[0])
	case "Lose":
		w.g.lose(v.n, v.n*29)
		w.open()
	}
	return turnPower(w.g.power, v)
}

// do does one move, and tells what it is answered.
func (g *rig) do(v move, turn int) api.Errno {
	switch v.name {
	case "Put", "Loose":
		return g.tray.Put(g.stamp(v, turn), changes(v, turn)...)
	case "Evict":
		return g.tray.Evict(v.pages[0])
	case "Flush":
		return g.tray.Flush()
	case "Sync":
		return g.tray.Sync()
	case "Node":
		_, e := g.tray.Node(v.pages[0])
		return e
	case "Lose":
		g.lose(v.n, v.n*29)
	}
	return turnPower(g.power, v)
}

// turnPower does a move of the power; nothing, if it is none.
func turnPower(m *mains.Mains, v move) api.Errno {
	switch v.name {
	case "Off":
		m.Off()
	case "On":
		m.On()
	case "Fuse":
		m.Fuse(v.n)
	}
	return api.OK
}

// alike tells where a tray and its twin, and what they are on, aren't the same.
func (w *twin) alike(g *rig, list []move) {
	g.Helper()
	var held, dirty []int
	for page := range g.disk.Len() {
		if _, ok := w.pages[page]; ok {
			held = append(held, page)
		}
		if lacks := w.all[page][w.safe[page]:]; len(lacks) > 0 {
			dirty = append(dirty, page, lacks[0].Stamp)
		}
	}
	var told []int
	for _, d := range g.tray.Dirty() {
		told = append(told, d.Page, d.First)
	}
	if !slices.Equal(told, dirty) || !slices.Equal(g.tray.Held(), held) {
		g.Fatalf("%v: Dirty() = %v, Held() = %v; want %v, %v", list, told, g.tray.Held(), dirty, held)
	}
	if !slices.Equal(g.disk.Fresh(), w.g.disk.Fresh()) || g.reel.Safe() != w.g.reel.Safe() || g.reel.Len() != w.g.reel.Len() || g.power.IsOn() != w.g.power.IsOn() {
		g.Fatalf("%v: not the same of the disk, the reel or the power: %v, %d", list, g.disk.Fresh(), g.reel.Safe())
	}
	for _, page := range held {
		if n, e := g.tray.Node(page); e != api.OK || !node.Same(n, w.pages[page]) {
			g.Fatalf("%v: Node(%d) = %+v, %d; want %+v", list, page, n, e, w.pages[page])
		}
	}
	g.power.On()
	w.g.power.On()
	for page := range g.disk.Len() {
		a, _ := g.disk.Read(page)
		b, _ := w.g.disk.Read(page)
		if a != b {
			g.Fatalf("%v: the disk hasn't the same page %d", list, page)
		}
	}
	g.behind()
}

// judge tells where moves, from the beginning on, come to something else with a tray than with its twin.
func judge(t *testing.T, pages int, list []move) {
	t.Helper()
	g, w := build(t, pages), double(t, pages)
	for i, v := range list {
		if e, other := g.do(v, i), w.do(v, i); e != other {
			t.Fatalf("%v: %d; want %d", list[:i+1], e, other)
		}
	}
	w.alike(g, list)
}

// P9.1 to P9.4: every order of a few calls with a tray over two pages.
func TestEveryOrder(t *testing.T) {
	var grow func(list []move)
	grow = func(list []move) {
		judge(t, 2, list)
		if len(list) == 4 {
			return
		}
		for _, v := range moves() {
			grow(append(list, v))
		}
	}
	grow(make([]move, 0, 4))
}

// P1, P9.1 to P9.4: many calls, with a tray over more pages the greater the first byte is.
func FuzzPlay(f *testing.F) {
	f.Add([]byte{})
	f.Add([]byte{4, 0, 1, 0, 2, 3, 1, 0, 1, 5, 0, 4, 0})
	f.Add([]byte{9, 0, 0x21, 1, 0x31, 9, 3, 4, 0, 8, 0, 5, 0, 10, 9, 6, 3, 4, 0})
	f.Add([]byte{250, 0, 200, 0, 100, 2, 150, 3, 200, 7, 0, 4, 0, 8, 0, 4, 0, 10, 255, 6, 200})
	f.Fuzz(func(t *testing.T, b []byte) {
		if len(b) == 0 {
			return
		}
		pages, b := int(b[0])/8+1, b[1:]
		var list []move
		for ; len(b) > 1 && len(list) < 100; b = b[2:] {
			v := move{name: []string{"Put", "Put", "Loose", "Evict", "Flush", "Sync", "Node", "Off", "On", "Fuse", "Lose"}[b[0]%11], n: int(b[1])}
			v.pages = []int{v.n % (pages + 1), v.n / 3 % pages, v.n / 7 % pages}[:b[0]/11%3+1]
			if v.name == "Fuse" {
				v.n = v.n%10 - 1
			}
			list = append(list, v)
		}
		judge(t, pages, list)
	})
}
