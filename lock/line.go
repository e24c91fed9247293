package lock

import (
	"iter"
	"maps"
	"slices"

	"gauger/api"
	"gauger/mode"
)

// joined is the mode that does for what is held, which may be nothing, and for another mode; 0, if there is none.
func joined(held, more int) int {
	if held == 0 {
		// Joined with itself: what is no mode comes to none then, too.
		held = more
	}
	return mode.Join(held, more)
}

// hold has a transaction hold of a name that mode.
func (b *Book) hold(id int, h api.Hold) {
	if b.held[h.Name] == nil {
		b.held[h.Name] = make(map[int]int)
	}
	b.held[h.Name][id] = h.Mode
}

// enter has a transaction wait: behind all who wait for the name; who holds something of it, right ahead of the first of these who doesn't.
func (b *Book) enter(id int, want api.Hold) {
	holders, line := b.held[want.Name], b.lines[want.Name]
	stranger := func(other int) bool { return holders[other] == 0 }
	place := slices.IndexFunc(line, stranger)
	if place < 0 || stranger(id) {
		place = len(line)
	}
	b.lines[want.Name] = slices.Insert(line, place, id)
	b.waits[id] = want
}

// leave has a transaction wait for nothing.
func (b *Book) leave(id int) {
	want, waiting := b.waits[id]
	if !waiting {
		return
	}
	delete(b.waits, id)
	line := b.lines[want.Name]
	if len(line) == 1 {
		delete(b.lines, want.Name)
		return
	}
	i := slices.Index(line, id)
	b.lines[want.Name] = slices.Delete(line, i, i+1)
}

// serve has those have what they wait for who may, the first such always next; who they are, in order.
func (b *Book) serve() []int {
	var served []int
	for _, name := range slices.Sorted(maps.Keys(b.lines)) {
		// Whoever has something changes what others may have of that name alone: those ahead need no second look.
		for id, ok := b.next(name); ok; id, ok = b.next(name) {
			b.hold(id, b.waits[id])
			b.leave(id)
			served = append(served, id)
		}
	}
	return served
}

// next is the first one in a name's line who may have what it wants; false, if nobody may.
func (b *Book) next(name string) (int, bool) {
	line := b.lines[name]
	for i, id := range line {
		if b.free(id, b.waits[id], line[:i]) {
			return id, true
		}
	}
	return 0, false
}

// free tells whether a transaction may have what it wants, if those who are told wait ahead of it.
func (b *Book) free(id int, want api.Hold, ahead []int) bool {
	for range b.blockers(id, want, ahead) {
		return false
	}
	return true
}

// blockers is those for whom a transaction must wait, in no order, and some twice: the others who hold of the name what the wanted mode doesn't go with, and, unless it holds something of the name, those ahead of it who wait for such.
func (b *Book) blockers(id int, want api.Hold, ahead []int) iter.Seq[int] {
	return func(yield func(int) bool) {
		holders := b.held[want.Name]
		for other, m := range holders {
			if other != id && !mode.Goes(want.Mode, m) && !yield(other) {
				return
			}
		}
		if holders[id] != 0 {
			return
		}
		for _, other := range ahead {
			if !mode.Goes(want.Mode, b.waits[other].Mode) && !yield(other) {
				return
			}
		}
	}
}
