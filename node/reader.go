package node

import "gauger/api"

// reader takes bytes apart, from the first one on; short tells that there were too few.
type reader struct {
	rest  string
	short bool
}

// take is the next size bytes; nothing, if there aren't so many.
func (p *reader) take(size int) string {
	if size > len(p.rest) {
		p.short = true
		return ""
	}
	s := p.rest[:size]
	p.rest = p.rest[size:]
	return s
}

// number is the number of the next size bytes, the lowest first.
func (p *reader) number(size int) int {
	n := 0
	for i, b := range []byte(p.take(size)) {
		n |= int(b) << (8 * i)
	}
	return n
}

// flag tells whether the next byte is 1.
func (p *reader) flag() bool {
	return p.number(1) == 1
}

// node is what the bytes tell of a node, which may be none that can be. The parts are taken in the order in which they stand here.
func (p *reader) node() api.Node {
	n := api.Node{Tree: p.number(1), Level: p.number(1), Stamp: p.number(4), HasHigh: p.flag()}
	high := p.take(api.CodeSize)
	if n.HasHigh {
		n.High = high
	}
	n.Right = p.number(2)
	n.List = p.list(p.number(2))
	return n
}

// list is so many entries, no more than the bytes are enough for.
func (p *reader) list(count int) []api.Entry {
	var all []api.Entry
	for ; count > 0 && !p.short; count-- {
		all = append(all, p.entry())
	}
	return all
}

func (p *reader) entry() api.Entry {
	return api.Entry{Key: p.take(api.CodeSize), Ghost: p.flag(), Val: p.take(p.number(1))}
}
