package blink

import (
	"slices"

	"gauger/api"
	"gauger/node"
)

// The nodes here are others than those that are handed in, and share no list with them: a node's list may be somebody's still, its spare room too.

// place is where a node's entry of a key stands, or where it would stand, and whether it is there.
func place(n api.Node, key string) (int, bool) {
	at := node.Find(n, key)
	if at >= 0 && n.List[at].Key == key {
		return at, true
	}
	return at + 1, false
}

// with is a node that has an entry, too, or in the place of one with its key.
func with(n api.Node, e api.Entry) api.Node {
	n.List = slices.Clone(n.List)
	at, ok := place(n, e.Key)
	if ok {
		n.List[at] = e
	} else {
		n.List = slices.Insert(n.List, at, e)
	}
	return n
}

// without is a node that lacks the entry at a place.
func without(n api.Node, at int) api.Node {
	n.List = slices.Delete(slices.Clone(n.List), at, at+1)
	return n
}

// joined is a node that has taken over all that is behind the next one, which has no entries.
func joined(n, next api.Node) api.Node {
	n.List = slices.Clone(n.List)
	n.HasHigh, n.High, n.Right = next.HasHigh, next.High, next.Right
	return n
}

// halves is a node of the first half of a node's entries, whose Right is a page, and one of the second half, which ends where the node did. There are two entries or more.
func halves(n api.Node, page int) (api.Node, api.Node) {
	half := len(n.List) / 2
	first, second := n, n
	first.List = slices.Clone(n.List[:half])
	second.List = slices.Clone(n.List[half:])
	first.HasHigh, first.High, first.Right = true, second.List[0].Key, page
	return first, second
}

// part has a page have a node's second half, and tells what is left to do: nothing above leads to that page.
func part(s spot, page int) ([]api.Change, api.Post) {
	first, second := halves(s.node, page)
	list := []api.Change{{Page: s.page, Node: first}, {Page: page, Node: second}}
	return list, api.Post{Tree: s.node.Tree, Level: s.node.Level + 1, Key: first.High, Page: page}
}

// grow has two pages have the root's halves, and the root lead to them: its page stays, since the tree is found by it.
func grow(root spot, free [2]int) []api.Change {
	first, second := halves(root.node, free[1])
	second.HasHigh, second.High, second.Right = false, "", 0
	n := root.node
	n.Level++
	n.List = []api.Entry{node.Lead(node.Low, free[0]), node.Lead(first.High, free[1])}
	return []api.Change{{Page: root.page, Node: n}, {Page: free[0], Node: first}, {Page: free[1], Node: second}}
}
