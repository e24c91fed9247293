package blink

import (
	"gauger/api"
	"gauger/node"
)

// spot is a node, and its page.
type spot struct {
	page int
	node api.Node
}

// guide goes from node to node, and counts them: whoever has seen as many as there are pages, and isn't there, goes round.
type guide struct {
	pages Pages
	seen  int
}

// sought is the node of a level that covers a key, or is the last one.
func sought(p Pages, root, level int, key string) (spot, api.Errno) {
	g := guide{pages: p}
	path, err := g.seek(root, level, key)
	if err != api.OK {
		return spot{}, err
	}
	return path[len(path)-1], api.OK
}

// seek is the nodes, one of each level, from a root down to the one of a level that covers a key, or is the last one; the pages' errors, ErrForm, if there is no way, or none that ends.
func (g *guide) seek(root, level int, key string) ([]spot, api.Errno) {
	s, err := g.visit(root)
	var path []spot
	for err == api.OK {
		if s, err = g.right(s, key); err != api.OK {
			break
		}
		path = append(path, s)
		if s.node.Level == level {
			return path, api.OK
		}
		if s.node.Level < level {
			return nil, api.ErrForm
		}
		s, err = g.below(s.node, node.Find(s.node, key))
	}
	return nil, err
}

// visit is the node of a page; ErrNil, if there are no pages at all, ErrForm, if it would be one too many, the pages' errors.
func (g *guide) visit(page int) (spot, api.Errno) {
	if g.pages == nil {
		return spot{}, api.ErrNil
	}
	if g.seen == api.MaxPages {
		return spot{}, api.ErrForm
	}
	g.seen++
	n, err := g.pages.Node(page)
	if err != api.OK {
		return spot{}, err
	}
	return spot{page, n}, api.OK
}

// right is the first node, from one on to the right, that covers a key, or is the last one.
func (g *guide) right(s spot, key string) (spot, api.Errno) {
	for !node.Covers(s.node, key) && s.node.Right != 0 {
		next, err := g.visit(s.node.Right)
		if err != api.OK {
			return spot{}, err
		}
		s = next
	}
	return s, api.OK
}

// below is the node to which a node's entry at a place leads; ErrForm, if there is no such entry, or it leads to no node one level below.
func (g *guide) below(n api.Node, at int) (spot, api.Errno) {
	// A leaf's entry leads nowhere, also where its Val is as the number of a page.
	if at < 0 || n.Level < 1 || !leads(n.List[at]) {
		return spot{}, api.ErrForm
	}
	s, err := g.visit(node.Child(n.List[at]))
	if err != api.OK {
		return spot{}, err
	}
	if s.node.Level != n.Level-1 {
		return spot{}, api.ErrForm
	}
	return s, api.OK
}

// leads tells whether an entry leads to a page: it is as one that does.
func leads(e api.Entry) bool {
	return node.Lead(e.Key, node.Child(e)).Val == e.Val
}
