package lock_test

import (
	"fmt"
	"math"
	"slices"
	"testing"

	"gauger/api"
	"gauger/lock"
)

// What goes with what, and what two come to, as layer 12's words have it: a row for each mode, in the order of their numbers.
const (
	goesRows = "1111.....|11.......|1.11.....|1.1......|.........|.....1...|......1..|.......1.|........."
	joinRows = "123455000|225555000|353455000|454455000|555555000|555556000|000000799|000000989|000000999"
)

// isMode tells whether a number is a mode.
func isMode(a int) bool { return 1 <= a && a <= 9 }

// goes tells whether two modes go together.
func goes(a, b int) bool { return goesRows[(a-1)*10+b-1] == '1' }

// joined is the mode of what is held, which may be nothing, and another one; 0, if there is none.
func joined(held, more int) int {
	switch {
	case !isMode(more):
		return 0
	case held == 0:
		return more
	}
	return int(joinRows[(held-1)*10+more-1] - '0')
}

// lot is a lock that is held, or waited for.
type lot struct {
	id    int
	name  string
	mode  int
	waits bool
}

// twin is a book told in another way: one list of all locks, in which those of a name that are waited for stand in the order in which they are.
type twin struct{ lots []lot }

// held is what a transaction holds of a name.
func (w *twin) held(id int, name string) int {
	for _, x := range w.lots {
		if x.id == id && x.name == name && !x.waits {
			return x.mode
		}
	}
	return 0
}

// set has a transaction hold a mode of a name.
func (w *twin) set(id int, name string, mode int) {
	w.lots = slices.DeleteFunc(w.lots, func(x lot) bool { return x.id == id && x.name == name && !x.waits })
	w.lots = append(w.lots, lot{id, name, mode, false})
}

// waiting is what a transaction waits for.
func (w *twin) waiting(id int) (lot, bool) {
	for _, x := range w.lots {
		if x.id == id && x.waits {
			return x, true
		}
	}
	return lot{}, false
}

// against is those for whom a transaction would wait that wants a mode of a name: behind all, if it isn't there yet.
func (w *twin) against(want lot) []int {
	var list []int
	passed := false
	for _, x := range w.lots {
		passed = passed || x.id == want.id && x.waits
		if x.name != want.name || x.id == want.id || goes(x.mode, want.mode) {
			continue
		}
		if !x.waits || !passed && w.held(want.id, want.name) == 0 {
			list = append(list, x.id)
		}
	}
	slices.Sort(list)
	return slices.Compact(list)
}

// ask is Ask, by the words.
func (w *twin) ask(id int, name string, mode int) api.Errno {
	held := w.held(id, name)
	want := lot{id, name, joined(held, mode), true}
	if _, ok := w.waiting(id); ok || want.mode == 0 {
		return api.ErrArg
	}
	if want.mode == held {
		return api.OK
	}
	if held == 0 && len(w.lots) >= 300 {
		return api.ErrLocks
	}
	if len(w.against(want)) == 0 {
		w.set(id, name, want.mode)
		return api.OK
	}
	at := len(w.lots)
	for i := len(w.lots) - 1; i >= 0 && held != 0; i-- {
		if x := w.lots[i]; x.waits && x.name == name && w.held(x.id, name) == 0 {
			at = i
		}
	}
	w.lots = slices.Insert(w.lots, at, want)
	return api.ErrBusy
}

// cancel is Cancel, by the words: after each one who has what it waited for all are looked at again, from the first name on.
func (w *twin) cancel(id int) []int {
	w.lots = slices.DeleteFunc(w.lots, func(x lot) bool { return x.id == id && x.waits })
	var list []int
	for {
		var first lot
		for _, x := range w.lots {
			if x.waits && (first.mode == 0 || x.name < first.name) && len(w.against(x)) == 0 {
				first = x
			}
		}
		if first.mode == 0 {
			return list
		}
		w.lots = slices.Delete(w.lots, slices.Index(w.lots, first), slices.Index(w.lots, first)+1)
		w.set(first.id, first.name, first.mode)
		list = append(list, first.id)
	}
}

// drop is Drop, by the words.
func (w *twin) drop(id int) []int {
	w.lots = slices.DeleteFunc(w.lots, func(x lot) bool { return x.id == id })
	return w.cancel(id)
}

// inherit is Inherit, by the words.
func (w *twin) inherit(from, to string) {
	for _, x := range slices.Clone(w.lots) {
		if x.name != from || x.waits {
			continue
		}
		if m := joined(w.held(x.id, to), x.mode); m != 0 {
			w.set(x.id, to, m)
		}
	}
}

// call is one call of a book.
type call struct {
	kind     byte // a: Ask, d: Drop, c: Cancel, i: Inherit
	id       int
	name, to string
	mode     int
}

// String tells a call.
func (c call) String() string {
	switch c.kind {
	case 'a':
		return fmt.Sprintf("Ask(%d, %q, %d)", c.id, c.name, c.mode)
	case 'd':
		return fmt.Sprintf("Drop(%d)", c.id)
	case 'c':
		return fmt.Sprintf("Cancel(%d)", c.id)
	}
	return fmt.Sprintf("Inherit(%q, %q)", c.name, c.to)
}

// pairing is a book and its twin, and what was called.
type pairing struct {
	testing.TB
	book  *lock.Book
	twin  *twin
	calls []call
}

// begin is without locks.
func begin(t testing.TB) *pairing {
	return &pairing{TB: t, book: lock.New(), twin: &twin{}}
}

// differs tells an answer of a call that isn't the expected one.
func (p *pairing) differs(c call, got, want any) {
	p.Helper()
	p.Fatalf("behind %v: %v is %v; want %v", p.calls, c, got, want)
}

// do does a call of both, whose answers must be the same.
func (p *pairing) do(c call) {
	p.Helper()
	switch c.kind {
	case 'a':
		if got, want := p.book.Ask(c.id, c.name, c.mode), p.twin.ask(c.id, c.name, c.mode); got != want {
			p.differs(c, got, want)
		}
	case 'd':
		if got, want := p.book.Drop(c.id), p.twin.drop(c.id); !slices.Equal(got, want) {
			p.differs(c, got, want)
		}
	case 'c':
		if got, want := p.book.Cancel(c.id), p.twin.cancel(c.id); !slices.Equal(got, want) {
			p.differs(c, got, want)
		}
	default:
		p.book.Inherit(c.name, c.to)
		p.twin.inherit(c.name, c.to)
	}
	p.calls = append(p.calls, c)
}

// look holds all that is told of some transactions and names against the twin.
func (p *pairing) look(ids []int, names []string) {
	p.Helper()
	if got, want := p.book.Count(), len(p.twin.lots); got != want {
		p.Fatalf("behind %v: Count is %d; want %d", p.calls, got, want)
	}
	for _, id := range ids {
		p.lookAt(id)
		for _, name := range names {
			if got, want := p.book.Mode(id, name), p.twin.held(id, name); got != want {
				p.Fatalf("behind %v: Mode(%d, %q) is %d; want %d", p.calls, id, name, got, want)
			}
		}
	}
	for _, name := range names {
		want := slices.ContainsFunc(p.twin.lots, func(x lot) bool { return x.name == name })
		if got := p.book.Used(name); got != want {
			p.Fatalf("behind %v: Used(%q) is %v; want %v", p.calls, name, got, want)
		}
	}
}

// lookAt holds all that is told of one transaction against the twin.
func (p *pairing) lookAt(id int) {
	p.Helper()
	var held []api.Hold
	for _, x := range p.twin.lots {
		if x.id == id && !x.waits {
			held = append(held, api.Hold{Name: x.name, Mode: x.mode})
		}
	}
	slices.SortFunc(held, func(x, y api.Hold) int {
		if x.Name < y.Name {
			return -1
		}
		return 1
	})
	if got := p.book.Held(id); !slices.Equal(got, held) {
		p.Fatalf("behind %v: Held(%d) is %v; want %v", p.calls, id, got, held)
	}
	var blockers []int
	x, waits := p.twin.waiting(id)
	if waits {
		blockers = p.twin.against(x)
	}
	if got, ok := p.book.Waits(id); ok != waits || got != (api.Hold{Name: x.name, Mode: x.mode}) {
		p.Fatalf("behind %v: Waits(%d) is %v, %v; want %v, %v", p.calls, id, got, ok, x, waits)
	}
	if got := p.book.Blockers(id); !slices.Equal(got, blockers) {
		p.Fatalf("behind %v: Blockers(%d) is %v; want %v", p.calls, id, got, blockers)
	}
}

// replayed is a pairing behind some calls.
func replayed(t testing.TB, calls []call) *pairing {
	t.Helper()
	p := begin(t)
	for _, c := range calls {
		p.do(c)
	}
	return p
}

// each does every order of n of the calls, one may come again, and looks at all behind each.
func each(t testing.TB, calls []call, n int, ids []int, names []string) {
	t.Helper()
	orders := 1
	for range n {
		orders *= len(calls)
	}
	list := make([]call, n)
	for order := range orders {
		for i := range list {
			list[i] = calls[order%len(calls)]
			order /= len(calls)
		}
		replayed(t, list).look(ids, names)
	}
}

// asks is the calls by which each of some transactions asks for each of some modes of each of some names.
func asks(ids []int, names []string, modes ...int) []call {
	var list []call
	for _, id := range ids {
		for _, name := range names {
			for _, m := range modes {
				list = append(list, call{kind: 'a', id: id, name: name, mode: m})
			}
		}
	}
	return list
}

// ends is the calls of a kind by each of some transactions.
func ends(kind byte, ids []int) []call {
	var list []call
	for _, id := range ids {
		list = append(list, call{kind: kind, id: id})
	}
	return list
}

// P13.1 to P13.4: every order of five calls of three transactions over one name.
func TestEveryOrderOfOneName(t *testing.T) {
	ids, names := []int{1, 2, 3}, []string{"a"}
	for _, modes := range [][]int{{api.S, api.X}, {api.E, api.S}, {api.IS, api.IX}, {api.GS, api.GI}} {
		calls := asks(ids, names, modes...)
		calls = append(calls, ends('d', ids)...)
		calls = append(calls, call{kind: 'c', id: 2})
		each(t, calls, 5, ids, names)
	}
}

// P13.1 to P13.4: every order of four calls of three transactions over two names, of which each inherits from the other.
func TestEveryOrderOfTwoNames(t *testing.T) {
	ids, names := []int{1, 2, 3}, []string{"a", "b"}
	for _, modes := range [][]int{{api.S, api.E}, {api.GS, api.GX}, {api.IX, api.GI}} {
		calls := asks(ids, names, modes...)
		calls = append(calls, ends('d', ids[:2])...)
		calls = append(calls, ends('c', ids[:1])...)
		calls = append(calls, call{kind: 'i', name: "a", to: "b"}, call{kind: 'i', name: "b", to: "a"}, call{kind: 'i', name: "a", to: "a"})
		each(t, calls, 4, ids, names)
	}
}

// P13.1 to P13.4: every order of four calls where two hold something already, and another one waits: who inherits while it waits, too.
func TestEveryOrderBehindSome(t *testing.T) {
	ids, names := []int{1, 2, 3, 4}, []string{"a", "b"}
	start := []call{
		{kind: 'a', id: 1, name: "a", mode: api.S}, {kind: 'a', id: 2, name: "a", mode: api.IS}, {kind: 'a', id: 2, name: "b", mode: api.E},
		{kind: 'a', id: 3, name: "a", mode: api.IX}, {kind: 'a', id: 1, name: "b", mode: api.S},
	}
	calls := append(asks([]int{2, 4}, names, api.IS, api.E), ends('d', ids[:3])...)
	calls = append(calls, ends('c', []int{1, 3})...)
	calls = append(calls, call{kind: 'i', name: "a", to: "b"}, call{kind: 'i', name: "b", to: "a"})
	list := make([]call, len(start)+4)
	copy(list, start)
	n := len(calls)
	for order := range n * n * n * n {
		for i := range 4 {
			list[len(start)+i] = calls[order%n]
			order /= n
		}
		replayed(t, list).look(ids, names)
	}
}

// mixed is n bytes among which there is no plain rule; others for another seed.
func mixed(seed, n int) []byte {
	b := make([]byte, n)
	x := uint32(seed + 1)
	for i := range b {
		x = x*1664525 + 1013904223
		b[i] = byte(x >> 24)
	}
	return b
}

// play does the calls of a script, three bytes each: of so many transactions and names; now and then it looks at all.
func (p *pairing) play(script []byte, ids []int, names []string, often int) {
	p.Helper()
	for i := 0; i+2 < len(script); i += 3 {
		c := call{kind: 'a', id: ids[int(script[i+1])%len(ids)], name: names[int(script[i+2])%len(names)], mode: int(script[i]) / 16 % 11}
		switch script[i] % 16 {
		case 0, 1:
			c.kind = 'd'
		case 2, 3:
			c.kind = 'c'
		case 4:
			c.kind, c.to = 'i', names[int(script[i+1])/16%len(names)]
		}
		p.do(c)
		if i/3%often == 0 {
			p.look(ids, names)
		}
	}
	p.look(ids, names)
}

// P13.1 to P13.4: long rows of calls of several transactions over several names.
func TestLongRows(t *testing.T) {
	ids := []int{7, 3, -2, 0, math.MaxInt, 12, math.MinInt}
	names := []string{"", "b", "a", "a\x00", "\xff\xfe", lock.Gap(5, "a")}
	for seed := range 30 {
		begin(t).play(mixed(seed, 1500), ids[:2+seed%6], names[:1+seed/6%6], 1+seed%4)
	}
}

// P13.1 to P13.4: rows of calls of many transactions over many names, up to MaxLocks locks and beyond.
func TestLongRowsAtTheLimit(t *testing.T) {
	var ids []int
	var names []string
	for i := range 25 {
		ids = append(ids, i*i)
		names = append(names, lock.Key(i%5, fmt.Sprint(i/5)))
	}
	for seed := range 4 {
		p := begin(t)
		script := mixed(seed+100, 6000)
		for i := 0; i < len(script); i += 3 {
			switch {
			// Few calls of Drop, and modes that mostly go together, so that there come to be many locks.
			case script[i] > 1 && script[i]%16 < 2:
				script[i] += 8
			case i%16 != 0:
				script[i] = 16 + script[i]%32
			}
		}
		full := 0
		for part := range slices.Chunk(script, 150) {
			p.play(part, ids, names, 1000)
			if p.book.Count() >= 300 {
				full++
			}
		}
		if full < 3 {
			t.Fatalf("seed %d: %d times there were as many locks as can be", seed, full)
		}
	}
}

// FuzzPlay holds whatever calls against the twin.
func FuzzPlay(f *testing.F) {
	for seed := range 6 {
		f.Add(mixed(seed, 240), byte(seed), byte(5-seed))
	}
	f.Add([]byte{}, byte(0), byte(0))
	f.Fuzz(func(t *testing.T, script []byte, ids, names byte) {
		numbers, texts := make([]int, ids%9+1), make([]string, names%7+1)
		for i := range numbers {
			numbers[i] = 3*i - 5
		}
		for i := range texts {
			texts[i] = lock.Key(i, "key")[i%3:]
		}
		begin(t).play(script[:min(len(script), 1200)], numbers, texts, 9)
	})
}
