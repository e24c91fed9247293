package escrow_test

import (
	"fmt"
	"math/big"
	"slices"
	"strings"
	"testing"

	"gauger/api"
	"gauger/escrow"
)

// power is 2 so many times by itself, as a number without bounds.
func power(n uint) *big.Int { return new(big.Int).Lsh(big.NewInt(1), n) }

// whole is what a number of 128 bits is, without bounds.
func whole(a api.Wide) *big.Int {
	n := new(big.Int).Mul(big.NewInt(int64(a.Hi)), power(64))
	return n.Add(n, new(big.Int).SetUint64(a.Lo))
}

// folded is a number without bounds modulo 2^128, from -2^127 on.
func folded(n *big.Int) api.Wide {
	bare := new(big.Int).Mod(n, power(128))
	lo := new(big.Int).Mod(bare, power(64))
	return api.Wide{Hi: int(bare.Rsh(bare, 64).Uint64()), Lo: lo.Uint64()}
}

// event is one thing that a transaction did: it made a savepoint, or added a number to a name.
type event struct {
	id   int
	mark bool
	name string
	n    *big.Int
}

// twin is a book told in another way: all that was done, in order, by those of whom something is known.
type twin struct{ events []event }

// add is Add, by the words.
func (w *twin) add(id int, name string, n api.Wide) {
	w.events = append(w.events, event{id: id, name: name, n: whole(n)})
}

// mark is Mark, by the words.
func (w *twin) mark(id int) int {
	had := w.marks(id)
	w.events = append(w.events, event{id: id, mark: true})
	return had
}

// marks is Marks, by the words.
func (w *twin) marks(id int) int {
	n := 0
	for _, v := range w.events {
		if v.id == id && v.mark {
			n++
		}
	}
	return n
}

// netAt is a transaction's net of a name when the savepoint of that number was made; now, if there is none.
func (w *twin) netAt(id int, name string, mark int) api.Wide {
	sum, seen := new(big.Int), 0
	for _, v := range w.events {
		switch {
		case v.id != id:
		case v.mark && seen == mark:
			return folded(sum)
		case v.mark:
			seen++
		case v.name == name:
			sum.Add(sum, v.n)
		}
	}
	return folded(sum)
}

// net is Net, by the words.
func (w *twin) net(id int, name string) api.Wide { return w.netAt(id, name, w.marks(id)) }

// names is all names to which something was added, rising.
func (w *twin) names() []string {
	var list []string
	for _, v := range w.events {
		if !v.mark {
			list = append(list, v.name)
		}
	}
	slices.Sort(list)
	return slices.Compact(list)
}

// ids is all transactions of which something is known, rising.
func (w *twin) ids() []int {
	var list []int
	for _, v := range w.events {
		list = append(list, v.id)
	}
	slices.Sort(list)
	return slices.Compact(list)
}

// back is Back, by the words: what was done behind the savepoint was never done.
func (w *twin) back(id, mark int) ([]escrow.Sum, api.Errno) {
	if mark < 0 || mark >= w.marks(id) {
		return nil, api.ErrArg
	}
	was, seen := twin{slices.Clone(w.events)}, 0
	w.events = slices.DeleteFunc(w.events, func(v event) bool {
		if v.id != id {
			return false
		}
		gone := seen > mark
		if v.mark {
			seen++
		}
		return gone
	})
	var list []escrow.Sum
	for _, name := range was.names() {
		before, behind := was.net(id, name), w.net(id, name)
		if before != behind {
			list = append(list, escrow.Sum{Name: name, N: folded(new(big.Int).Sub(whole(before), whole(behind)))})
		}
	}
	return list, api.OK
}

// end is End, by the words.
func (w *twin) end(id int) {
	w.events = slices.DeleteFunc(w.events, func(v event) bool { return v.id == id })
}

// ways is what may be left of a transaction's net of a name, each once.
func (w *twin) ways(id int, name string) []*big.Int {
	list := []*big.Int{new(big.Int), whole(w.net(id, name))}
	for mark := range w.marks(id) {
		list = append(list, whole(w.netAt(id, name, mark)))
	}
	slices.SortFunc(list, (*big.Int).Cmp)
	return slices.CompactFunc(list, func(x, y *big.Int) bool { return x.Cmp(y) == 0 })
}

// outcomes is each outcome of a name's number, told one by one, if a transaction adds so much to it.
func (w *twin) outcomes(id int, name string, now, n api.Wide) []*big.Int {
	then := twin{slices.Clone(w.events)}
	then.add(id, name, n)
	number := whole(folded(new(big.Int).Add(whole(now), whole(n))))
	list := []*big.Int{number}
	for _, other := range then.ids() {
		var more []*big.Int
		for _, o := range list {
			without := new(big.Int).Sub(o, whole(then.net(other, name)))
			for _, way := range then.ways(other, name) {
				more = append(more, new(big.Int).Add(without, way))
			}
		}
		list = more
	}
	return list
}

// bounds is Bounds, by the words.
func (w *twin) bounds(id int, name string, now, n api.Wide) (api.Wide, api.Wide) {
	list := w.outcomes(id, name, now, n)
	return folded(slices.MinFunc(list, (*big.Int).Cmp)), folded(slices.MaxFunc(list, (*big.Int).Cmp))
}

// test is Test, by the words.
func (w *twin) test(id int, name string, now, n api.Wide) api.Errno {
	for _, o := range w.outcomes(id, name, now, n) {
		if !o.IsInt64() {
			return api.ErrOverflow
		}
	}
	return api.OK
}

// call is one call of a book.
type call struct {
	kind byte // a: Add, m: Mark, b: Back, e: End
	id   int
	name string
	n    api.Wide
	mark int
}

// String tells a call.
func (c call) String() string {
	switch c.kind {
	case 'a':
		return fmt.Sprintf("Add(%d, %q, %v)", c.id, c.name, whole(c.n))
	case 'm':
		return fmt.Sprintf("Mark(%d)", c.id)
	case 'b':
		return fmt.Sprintf("Back(%d, %d)", c.id, c.mark)
	}
	return fmt.Sprintf("End(%d)", c.id)
}

// pairing is a book and its twin, and what was called.
type pairing struct {
	testing.TB
	book  *escrow.Book
	twin  *twin
	calls []call
}

// begin is of nothing that was added.
func begin(t testing.TB) *pairing {
	return &pairing{TB: t, book: escrow.New(), twin: &twin{}}
}

// do does a call of both, whose answers must be the same.
func (p *pairing) do(c call) {
	p.Helper()
	switch c.kind {
	case 'a':
		p.book.Add(c.id, c.name, c.n)
		p.twin.add(c.id, c.name, c.n)
	case 'm':
		if got, want := p.book.Mark(c.id), p.twin.mark(c.id); got != want {
			p.Fatalf("behind %v: %v is %d; want %d", p.calls, c, got, want)
		}
	case 'b':
		got, e := p.book.Back(c.id, c.mark)
		want, wantErr := p.twin.back(c.id, c.mark)
		if !slices.Equal(got, want) || e != wantErr {
			p.Fatalf("behind %v: %v is %v, %v; want %v, %v", p.calls, c, got, e, want, wantErr)
		}
	default:
		p.book.End(c.id)
		p.twin.end(c.id)
	}
	p.calls = append(p.calls, c)
}

// look holds the nets and savepoints of some transactions against the twin.
func (p *pairing) look(ids []int, names []string) {
	p.Helper()
	for _, id := range ids {
		if got, want := p.book.Marks(id), p.twin.marks(id); got != want {
			p.Fatalf("behind %v: Marks(%d) is %d; want %d", p.calls, id, got, want)
		}
		for _, name := range names {
			if got, want := p.book.Net(id, name), p.twin.net(id, name); got != want {
				p.Fatalf("behind %v: Net(%d, %q) is %v; want %v", p.calls, id, name, got, want)
			}
		}
	}
}

// weigh holds what a name's number may come to against the twin, if a transaction adds so much to it.
func (p *pairing) weigh(id int, name string, now, n api.Wide) {
	p.Helper()
	least, greatest := p.book.Bounds(id, name, now, n)
	low, high := p.twin.bounds(id, name, now, n)
	if least != low || greatest != high {
		p.Fatalf("behind %v: Bounds(%d, %q, %v, %v) is %v, %v; want %v, %v", p.calls, id, name, whole(now), whole(n), least, greatest, low, high)
	}
	if got, want := p.book.Test(id, name, now, n), p.twin.test(id, name, now, n); got != want {
		p.Fatalf("behind %v: Test(%d, %q, %v, %v) is %v; want %v", p.calls, id, name, whole(now), whole(n), got, want)
	}
}

// The twin itself is what the chapter's words say.
func TestTwin(t *testing.T) {
	w := &twin{}
	for i, n := range []int{4, -1} {
		w.add(1, "a", folded(big.NewInt(int64(n))))
		if had := w.mark(1); had != i {
			t.Fatalf("it had %d savepoints; want %d", had, i)
		}
	}
	w.add(1, "a", folded(big.NewInt(6)))
	w.add(1, "b", folded(big.NewInt(1)))
	w.add(2, "a", folded(big.NewInt(-20)))
	got := fmt.Sprint(w.net(1, "a"), w.netAt(1, "a", 0), w.netAt(1, "a", 1), w.marks(1), w.ways(1, "a"), w.ids(), w.names())
	if want := "{0 9} {0 4} {0 3} 2 [0 3 4 9] [1 2] [a b]"; got != want {
		t.Fatalf("the twin tells %s; want %s", got, want)
	}
	list := w.outcomes(2, "a", folded(big.NewInt(100)), folded(big.NewInt(-1)))
	if got, want := fmt.Sprint(list), "[90 111 93 114 94 115 99 120]"; got != want {
		t.Fatalf("the outcomes are %s; want %s", got, want)
	}
	sums, e := w.back(1, 0)
	if got, want := fmt.Sprint(sums, e, w.marks(1), w.net(1, "a"), w.net(1, "b")), "[{a {0 5}} {b {0 1}}] 0 1 {0 4} {0 0}"; got != want {
		t.Fatalf("the way back tells %s; want %s", got, want)
	}
	for _, n := range []api.Wide{{}, {Hi: -1, Lo: 1<<64 - 1}, {Hi: 5, Lo: 1 << 63}, {Hi: -1 << 63}, {Hi: 1<<63 - 1, Lo: 1<<64 - 1}} {
		if got := folded(new(big.Int).Add(whole(n), power(128))); got != n {
			t.Fatalf("%v folded is %v", n, got)
		}
	}
}

// twinAfter is a twin behind a script, as after has it.
func twinAfter(t testing.TB, script string) *twin {
	t.Helper()
	w := &twin{}
	for _, word := range strings.Fields(script) {
		id := int(word[0] - '0')
		if word[1] == 'm' {
			w.mark(id)
		} else {
			w.add(id, "a", folded(big.NewInt(int64(number(t, word[1:])))))
		}
	}
	return w
}
