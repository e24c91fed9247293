package escrow_test

import (
	"fmt"
	"math"
	"slices"
	"testing"

	"gauger/api"
	"gauger/wide"
)

// adds is the calls by which each of some transactions adds each of some numbers to each of some names.
func adds(ids []int, names []string, numbers ...int) []call {
	var list []call
	for _, id := range ids {
		for _, name := range names {
			for _, n := range numbers {
				list = append(list, call{kind: 'a', id: id, name: name, n: wide.Of(n)})
			}
		}
	}
	return list
}

// each does every order of n of the calls, one may come again, and looks behind each.
func each(t *testing.T, calls []call, n int, look func(p *pairing)) {
	t.Helper()
	orders := 1
	for range n {
		orders *= len(calls)
	}
	for order := range orders {
		p := begin(t)
		for range n {
			p.do(calls[order%len(calls)])
			order /= len(calls)
		}
		look(p)
	}
}

// P16.1 to P16.3: every order of five calls of two transactions over one name: each outcome told one by one.
func TestEveryOrderOfOneName(t *testing.T) {
	ids, names := []int{1, 2}, []string{"a"}
	calls := adds(ids, names, 2, -3)
	for _, id := range ids {
		calls = append(calls, call{kind: 'm', id: id})
	}
	calls = append(calls, call{kind: 'b', id: 1}, call{kind: 'b', id: 1, mark: 1}, call{kind: 'e', id: 1})
	each(t, calls, 5, func(p *pairing) {
		p.look(ids, names)
		p.weigh(3, "a", wide.Of(math.MaxInt-3), wide.Of(1))
		p.weigh(1, "a", wide.Of(math.MinInt+2), wide.Of(-1))
	})
}

// P16.1: every order of five calls of one transaction over two names, with savepoints and ways back.
func TestEveryOrderOfTwoNames(t *testing.T) {
	ids, names := []int{5, 6}, []string{"b", "a"}
	calls := adds(ids[:1], names, 1, -1)
	calls = append(calls, call{kind: 'm', id: 5}, call{kind: 'e', id: 5}, call{kind: 'b', id: 6})
	for mark := range 3 {
		calls = append(calls, call{kind: 'b', id: 5, mark: mark})
	}
	each(t, calls, 5, func(p *pairing) { p.look(ids, names) })
}

// mixed is n bytes among which there is no plain rule; others for another seed.
func mixed(seed, n int) []byte {
	b := make([]byte, n)
	x := uint32(seed + 1)
	for i := range b {
		x = x*1664525 + 1013904223
		b[i] = byte(x >> 24)
	}
	return b
}

// weight is a number by a byte: a small one, or one near an end of 64, 65 or 128 bits, or beside 0.
func weight(b byte) api.Wide {
	small := wide.Of(int(b/8) - 15)
	switch b % 8 {
	case 0:
		return wide.Add(wide.Of(math.MaxInt), small)
	case 1:
		return wide.Add(wide.Of(math.MinInt), small)
	case 2:
		return wide.Add(api.Wide{Hi: 1}, small)
	case 3:
		return wide.Add(api.Wide{Hi: math.MaxInt, Lo: math.MaxUint64}, small)
	case 4:
		return wide.Add(api.Wide{Hi: math.MinInt}, small)
	}
	return small
}

// play does the calls of a script, four bytes each, of so many transactions and names, the numbers small or of all sizes, and looks at all behind each.
func (p *pairing) play(script []byte, ids []int, names []string, sizes bool) {
	p.Helper()
	for s := range slices.Chunk(script, 4) {
		if len(s) < 4 {
			return
		}
		c := call{kind: 'a', id: ids[int(s[1])%len(ids)], name: names[int(s[2])%len(names)], n: wide.Of(int(s[3]) - 128)}
		if sizes {
			c.n = weight(s[3])
		}
		had := p.twin.marks(c.id)
		switch kind := s[0] % 16; {
		case kind < 3 && had < api.MaxMarks:
			c.kind = 'm'
		case kind < 6:
			c.kind, c.mark = 'b', int(s[3])%(had+2)-int(s[3])/192
		case kind == 6:
			c.kind = 'e'
		}
		p.do(c)
		p.look(ids, names)
		now := wide.Add(weight(s[0]/16*5+s[1]), p.book.Net(c.id, c.name))
		p.weigh(ids[int(s[2])/16%len(ids)], c.name, now, c.n)
	}
}

// P16.1 to P16.3: long rows of calls of several transactions over several names.
func TestLongRows(t *testing.T) {
	ids := []int{7, -2, 0, math.MaxInt}
	names := []string{"", "b", "a\x00", "a", "\xff\xfe"}
	for seed := range 60 {
		begin(t).play(mixed(seed, 400), ids[:1+seed%4], names[:1+seed/4%5], seed%2 == 1)
	}
}

// engine is a book, and the numbers to which its names came: as one that adds just what is OK.
type engine struct {
	*pairing
	names []string
	now   map[string]api.Wide
	oks   int
}

// add adds a number to a name for a transaction, if that is OK.
func (g *engine) add(id int, name string, n api.Wide) {
	g.Helper()
	g.weigh(id, name, g.now[name], n)
	if g.book.Test(id, name, g.now[name], n) == api.OK {
		g.do(call{kind: 'a', id: id, name: name, n: n})
		g.now[name] = wide.Add(g.now[name], n)
		g.oks++
	}
}

// may is the outcomes of each name's number.
func (g *engine) may() map[string][]string {
	list := make(map[string][]string)
	for _, name := range g.names {
		for _, o := range g.twin.outcomes(0, name, g.now[name], api.Wide{}) {
			list[name] = append(list[name], o.String())
		}
	}
	return list
}

// kept holds all that the numbers are, and may come to, against what they might have come to ahead of that.
func (g *engine) kept(was map[string][]string) {
	g.Helper()
	for _, name := range g.names {
		if n, ok := wide.Int(g.now[name]); !ok {
			g.Fatalf("behind %v: %q is %v, beyond 64 bits: %d", g.calls, name, g.now[name], n)
		}
		least, greatest := g.book.Bounds(0, name, g.now[name], api.Wide{})
		for _, n := range []api.Wide{least, greatest, g.now[name]} {
			if !slices.Contains(was[name], whole(n).String()) {
				g.Fatalf("behind %v: %q may come to %v, which was no outcome of %v", g.calls, name, whole(n), was[name])
			}
		}
		if e := g.book.Test(0, name, g.now[name], api.Wide{}); e != api.OK {
			g.Fatalf("behind %v: Test of %q is %v", g.calls, name, e)
		}
	}
}

// back has a transaction go back to a savepoint, and takes away what the way back tells.
func (g *engine) back(id, mark int) {
	g.Helper()
	was := g.may()
	list, e := g.book.Back(id, mark)
	want, wantErr := g.twin.back(id, mark)
	g.calls = append(g.calls, call{kind: 'b', id: id, mark: mark})
	if !slices.Equal(list, want) || e != wantErr {
		g.Fatalf("behind %v: %v, %v; want %v, %v", g.calls, list, e, want, wantErr)
	}
	for _, s := range list {
		g.now[s.Name] = wide.Sub(g.now[s.Name], s.N)
	}
	g.kept(was)
}

// end has a transaction end: it stays, or is undone.
func (g *engine) end(id int, stays bool) {
	g.Helper()
	was := g.may()
	for _, name := range g.names {
		if !stays {
			g.now[name] = wide.Sub(g.now[name], g.book.Net(id, name))
		}
	}
	g.do(call{kind: 'e', id: id})
	g.kept(was)
}

// step does what four bytes tell.
func (g *engine) step(s []byte, deals int) {
	g.Helper()
	id := 1 + int(s[1])%deals
	switch kind := s[0] % 16; {
	case kind < 2 && g.book.Marks(id) < api.MaxMarks:
		g.do(call{kind: 'm', id: id})
	case kind == 2 && g.book.Marks(id) > 0:
		g.back(id, int(s[3])%g.book.Marks(id))
	case kind == 3:
		g.end(id, s[3] < 128)
	default:
		// Mostly small ones, now and then one that leads from one end to near the other.
		n := wide.Of(int(s[3]) - 128)
		if s[3]%16 == 5 {
			n = wide.Of((int(s[0]) - 128) << 55)
		}
		g.add(id, g.names[int(s[2])%len(g.names)], n)
	}
}

// P16.3: what was OK stays within 64 bits, however the others end, or go back; whatever all come to was an outcome ahead.
func TestWhatIsOKStays(t *testing.T) {
	names := []string{"top", "bottom", "mid"}
	for seed := range 40 {
		g := &engine{pairing: begin(t), names: names, now: map[string]api.Wide{"top": wide.Of(math.MaxInt - 300), "bottom": wide.Of(math.MinInt + 200), "mid": wide.Of(-7)}}
		deals := 2 + seed%3
		for s := range slices.Chunk(mixed(seed, 800), 4) {
			g.step(s, deals)
		}
		for id := 1; id <= deals; id++ {
			g.end(id, (seed>>id)%2 == 0)
		}
		if g.oks < 40 || g.oks > 180 {
			t.Fatalf("seed %d: %d of the numbers were OK", seed, g.oks)
		}
	}
}

// P16.3: of each number near an end, and each one to be added, Test is OK just if each way to end keeps it in 64 bits.
func TestOKJustIfAllKeep(t *testing.T) {
	for _, script := range []string{"1+3", "1-3", "1+3 2-4", "1-2 1m 1+5 2m", "1+3 1m 1-4 1m 1+2 2-3 2m 2+5", "1m 1+2 2m 2-2 3-1 3m 3m 3+2"} {
		g, w := after(t, script), twinAfter(t, script)
		for _, end := range []int{math.MinInt, math.MaxInt} {
			for i := range 25 {
				for n := -9; n <= 9; n++ {
					now := wide.Add(wide.Of(end), wide.Of(i-12))
					for id := 1; id <= 4; id++ {
						least, greatest := w.bounds(id, "a", now, wide.Of(n))
						g.boundsWide(id, now, wide.Of(n), least, greatest)
						g.testWide(id, now, wide.Of(n), w.test(id, "a", now, wide.Of(n)))
					}
				}
			}
		}
	}
}

// P16.2: many transactions, with many savepoints, over one name: each by its least and its greatest net.
func TestMany(t *testing.T) {
	b := begin(t).book
	now, least, greatest := 0, 0, 0
	for id := range 200 {
		net, low, high := 0, 0, 0
		for i := range 30 {
			n := (id*37+i*i*11)%41 - 20
			b.Add(id, "a", wide.Of(n))
			b.Add(id, fmt.Sprint(i), wide.Of(n))
			net += n
			now += n
			if i%3 == 0 {
				b.Mark(id)
				low, high = min(low, net), max(high, net)
			}
		}
		low, high = min(low, net), max(high, net)
		least, greatest = least+low, greatest+high
	}
	gotLeast, gotGreatest := b.Bounds(-1, "a", wide.Of(now), api.Wide{})
	if gotLeast != wide.Of(least) || gotGreatest != wide.Of(greatest) {
		t.Fatalf("Bounds: %v, %v; want %d, %d", gotLeast, gotGreatest, least, greatest)
	}
}

// FuzzPlay holds whatever calls against the twin.
func FuzzPlay(f *testing.F) {
	for seed := range 6 {
		f.Add(mixed(seed, 120), byte(seed), byte(5-seed), seed%2 == 0)
	}
	f.Add([]byte{}, byte(0), byte(0), false)
	f.Fuzz(func(t *testing.T, script []byte, ids, names byte, sizes bool) {
		numbers, texts := make([]int, ids%4+1), make([]string, names%5+1)
		for i := range numbers {
			numbers[i] = 3*i - 5
		}
		for i := range texts {
			texts[i] = fmt.Sprint("name", i)[i%3:]
		}
		begin(t).play(script[:min(len(script), 400)], numbers, texts, sizes)
	})
}
