package note

import "gauger/api"

// reader takes bytes apart, from the first one on; short tells that there were too few.
type reader struct {
	rest  string
	short bool
}

// take is the next size bytes; nothing, if there aren't so many.
func (p *reader) take(size int) string {
	if size > len(p.rest) {
		p.short = true
		return ""
	}
	s := p.rest[:size]
	p.rest = p.rest[size:]
	return s
}

// number is the number of the next size bytes, the lowest first.
func (p *reader) number(size int) int {
	n := 0
	for i, b := range []byte(p.take(size)) {
		n |= int(b) << (8 * i)
	}
	return n
}

// text is so many bytes as the next one tells.
func (p *reader) text() string {
	return p.take(p.number(1))
}

// record is what stands between the head and the tail of a record, which may not be one that can be. The parts are taken in the order in which they stand here.
func (p *reader) record() api.Record {
	return api.Record{
		Kind:  p.number(1),
		Deal:  p.number(4),
		Prev:  p.number(4),
		Next:  p.number(4),
		Undo:  api.Undo{Kind: p.number(1), Tree: p.number(1), Key: p.text(), Val: p.text()},
		Pages: list(p, 1, p.image),
		Open:  list(p, 1, p.open),
		Dirty: list(p, 2, p.dirty),
	}
}

func (p *reader) image() api.Image {
	return api.Image{Page: p.number(2), Data: p.take(api.PageSize)}
}

func (p *reader) open() api.Open {
	return api.Open{Deal: p.number(4), Last: p.number(4)}
}

func (p *reader) dirty() api.Dirty {
	return api.Dirty{Page: p.number(2), First: p.number(4)}
}

// list is as many things as the next size bytes tell, no more than the bytes are enough for.
func list[T any](p *reader, size int, one func() T) []T {
	var all []T
	for n := p.number(size); n > 0 && !p.short; n-- {
		all = append(all, one())
	}
	return all
}
