package blink

import (
	"slices"

	"gauger/api"
)

// Shelf is nodes by their pages, in memory.
type Shelf struct {
	nodes [api.MaxPages]api.Node
}

// NewShelf is one on which each page's node is the one without anything.
func NewShelf() *Shelf {
	return &Shelf{}
}

// Node is a page's node; ErrNil, ErrArg, if there is no such page.
func (s *Shelf) Node(page int) (api.Node, api.Errno) {
	if s == nil {
		return api.Node{}, api.ErrNil
	}
	if page < 0 || page >= len(s.nodes) {
		return api.Node{}, api.ErrArg
	}
	return alone(s.nodes[page]), api.OK
}

// Put has pages have other nodes, one behind the other; a page that there isn't has none.
func (s *Shelf) Put(list ...api.Change) {
	if s == nil {
		return
	}
	for _, c := range list {
		if c.Page >= 0 && c.Page < len(s.nodes) {
			s.nodes[c.Page] = alone(c.Node)
		}
	}
}

// alone is a node that shares no list with the one that it is of.
func alone(n api.Node) api.Node {
	n.List = slices.Clone(n.List)
	return n
}
