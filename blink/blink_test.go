package blink_test

import (
	"fmt"
	"maps"
	"math"
	"reflect"
	"slices"
	"strings"
	"testing"

	"gauger/api"
	"gauger/blink"
	"gauger/diary"
	"gauger/mains"
	"gauger/node"
	"gauger/reel"
	"gauger/slab"
	"gauger/tray"
)

// A shelf and a tray are where nodes are.
var (
	_ blink.Pages = (*blink.Shelf)(nil)
	_ blink.Pages = (*tray.Tray)(nil)
)

// top is the greatest key.
const top = "\xff\xff\xff\xff\xff\xff\xff\xff\xff"

// book is nodes by their pages, that are answered as they are: whoever changes what is answered changes them. A page that isn't in it is ErrDown, as one that can't be read.
type book map[int]api.Node

func (b book) Node(page int) (api.Node, api.Errno) {
	n, ok := b[page]
	if !ok {
		return api.Node{}, api.ErrDown
	}
	return n, api.OK
}

// put has pages have other nodes.
func (b book) put(list ...api.Change) {
	for _, c := range list {
		b[c.Page] = c.Node
	}
}

// maker is pages whose nodes are made as they are asked for.
type maker func(page int) (api.Node, api.Errno)

func (m maker) Node(page int) (api.Node, api.Errno) { return m(page) }

// k is the key of nine times a letter.
func k(letter string) string { return strings.Repeat(letter, 9) }

// key is a key of nine bytes; those of greater numbers are above.
func key(n int) string { return fmt.Sprintf("key%06d", n) }

// leaf is a leaf of the keys of some letters, whose Vals are the letters; without High, if that is "".
func leaf(high string, right int, letters string) api.Node {
	n := api.Node{Tree: 5, Stamp: 3, HasHigh: high != "", High: k(high), Right: right}
	for _, c := range strings.Split(letters, "") {
		n.List = append(n.List, api.Entry{Key: k(c), Val: "v" + c})
	}
	return n
}

// inner is a node above the leaves; its entries by turns a letter and a page, "" is Low.
func inner(level int, high string, right int, list ...any) api.Node {
	n := api.Node{Tree: 5, Stamp: 4, Level: level, HasHigh: high != "", High: k(high), Right: right}
	for ; len(list) > 1; list = list[2:] {
		at := k(list[0].(string))
		if at == "" {
			at = node.Low
		}
		n.List = append(n.List, node.Lead(at, list[1].(int)))
	}
	return n
}

// three is a sound tree of three levels, of the root 1: to the nodes 4 and 12 no entry leads yet.
func three() book {
	return book{
		1:  inner(2, "", 0, "", 2, "m", 3),
		2:  inner(1, "m", 3, "", 10, "d", 11),
		3:  inner(1, "s", 4, "m", 13),
		4:  inner(1, "", 0, "s", 14, "u", 15),
		10: leaf("d", 11, "bc"),
		11: leaf("g", 12, "df"),
		12: leaf("m", 13, "gi"),
		13: leaf("s", 14, "mo"),
		14: leaf("u", 15, ""),
		15: leaf("", 0, "vx"),
	}
}

// two is a sound tree of two levels, of the root 1, whose leaves have no entries but the first one.
func two() book {
	return book{
		1: inner(1, "", 0, "", 5, "f", 6, "p", 7),
		5: leaf("f", 6, "bc"),
		6: leaf("p", 7, ""),
		7: leaf("", 0, ""),
	}
}

// one is a tree of a leaf, of the root 1.
func one() book {
	return book{1: leaf("", 0, "bdf")}
}

// text is all that something holds, lists of nothing alike.
func text(x any) string { return fmt.Sprintf("%+v", x) }

// deep is all that a book holds, the spare room of its lists too.
func deep(b book) string {
	var all strings.Builder
	for _, page := range slices.Sorted(maps.Keys(b)) {
		n := b[page]
		fmt.Fprintf(&all, "%d: %+v %+v\n", page, n, n.List[:cap(n.List)])
	}
	return all.String()
}

// roomy has all lists have spare room with something in it.
func roomy(b book) book {
	for page, n := range b {
		list := slices.Clone(n.List)
		for range 4 {
			list = append(list, api.Entry{Key: "spare", Val: "room"})
		}
		n.List = list[:len(n.List)]
		b[page] = n
	}
	return b
}

// answer is what a call answered: its error, what is to change, and all it answered as text.
type answer struct {
	name string
	e    api.Errno
	list []api.Change
	all  string
	zero bool
}

// told is an answer; zero, if all that there is beside the error is.
func told(name string, e api.Errno, list []api.Change, rest ...any) answer {
	a := answer{name: name, e: e, list: list, zero: len(list) == 0, all: text(list)}
	for _, x := range rest {
		v := reflect.ValueOf(x)
		a.zero = a.zero && (v.IsZero() || v.Kind() == reflect.Slice && v.Len() == 0)
		a.all += " " + text(x)
	}
	return a
}

// asker is a call of some arguments, over pages.
type asker func(p blink.Pages) answer

// askers is each call but Height, of a key, at a level, or at the leaves; List, too, which seeks Low.
func askers(root, level int, key string) []asker {
	all := []asker{
		func(p blink.Pages) answer {
			pages, e := blink.Seek(p, root, level, key)
			return told("Seek", e, nil, pages)
		},
		func(p blink.Pages) answer {
			list, post, e := blink.Split(p, root, level, key, [2]int{91, 92})
			return told("Split", e, list, post)
		},
		func(p blink.Pages) answer {
			list, e := blink.Hang(p, root, api.Post{Tree: 5, Level: level, Key: key, Page: 93})
			return told("Hang", e, list)
		},
	}
	if level == 0 {
		all = append(all, leafAskers(root, key)...)
	}
	if level == 0 && key == node.Low {
		all = append(all, func(p blink.Pages) answer {
			list, e := blink.List(p, root)
			return told("List", e, nil, list)
		})
	}
	return all
}

// leafAskers is each call that seeks a key at the leaves.
func leafAskers(root int, key string) []asker {
	return []asker{
		func(p blink.Pages) answer {
			entry, ok, e := blink.Get(p, root, key)
			return told("Get", e, nil, entry, ok)
		},
		func(p blink.Pages) answer {
			list, e := blink.Put(p, root, api.Entry{Key: key, Val: "new"})
			return told("Put", e, list)
		},
		func(p blink.Pages) answer {
			list, e := blink.Drop(p, root, key)
			return told("Drop", e, list)
		},
		func(p blink.Pages) answer {
			list, page, e := blink.Shrink(p, root, key)
			return told("Shrink", e, list, page)
		},
	}
}

// refused tells where one of the calls isn't refused with an error, and nothing beside it.
func refused(t testing.TB, what string, p blink.Pages, root, level int, key string, e api.Errno) {
	t.Helper()
	for _, ask := range askers(root, level, key) {
		a := ask(p)
		if a.e != e || !a.zero {
			t.Errorf("%s: %s of %q at %d: %d, %s; want %d, nothing", what, a.name, key, level, a.e, a.all, e)
		}
	}
}

// change tells where an answer isn't just these changes, by turns a page and its node.
func change(t testing.TB, what string, list []api.Change, e api.Errno, expected ...any) {
	t.Helper()
	var all []api.Change
	for ; len(expected) > 1; expected = expected[2:] {
		all = append(all, api.Change{Page: expected[0].(int), Node: expected[1].(api.Node)})
	}
	if e != api.OK || text(list) != text(all) {
		t.Errorf("%s: %d\n%s; want\n%s", what, e, text(list), text(all))
	}
}

// P10.1: at first each page of a shelf has the node without anything.
func TestNewShelf(t *testing.T) {
	s := blink.NewShelf()
	for range 2 {
		for page := range 256 {
			if n, e := s.Node(page); e != api.OK || text(n) != text(api.Node{}) {
				t.Fatalf("Node(%d) = %+v, %d", page, n, e)
			}
		}
	}
}

// outside is pages that there aren't.
func outside() []int {
	return []int{-1, -2, -256, 256, 257, 1000, math.MinInt, math.MaxInt, math.MinInt32, math.MaxInt32, 1 << 32}
}

// P10.1: a page that there isn't is ErrArg, whatever was put there.
func TestShelfOutside(t *testing.T) {
	s := blink.NewShelf()
	look := func() {
		t.Helper()
		for _, page := range outside() {
			if n, e := s.Node(page); e != api.ErrArg || !reflect.DeepEqual(n, api.Node{}) {
				t.Fatalf("Node(%d) = %+v, %d", page, n, e)
			}
		}
	}
	look()
	for _, page := range outside() {
		s.Put(api.Change{Page: page, Node: leaf("", 0, "abc")})
	}
	look()
	for page := range 256 {
		if n, _ := s.Node(page); text(n) != text(api.Node{}) {
			t.Fatalf("Node(%d) = %+v", page, n)
		}
	}
	// What is put beside it is there.
	s.Put(api.Change{Page: -1}, api.Change{Page: 7, Node: leaf("", 0, "abc")}, api.Change{Page: 256})
	if n, _ := s.Node(7); text(n) != text(leaf("", 0, "abc")) {
		t.Fatalf("Node(7) = %+v", n)
	}
	look()
}

// P10.1: pages have the nodes that they were put last, whatever these are; of the same page twice the later one.
func TestShelfPut(t *testing.T) {
	s := blink.NewShelf()
	has := map[int]api.Node{}
	put := func(list ...api.Change) {
		t.Helper()
		s.Put(list...)
		for _, c := range list {
			has[c.Page] = c.Node
		}
		for page := range 256 {
			if n, e := s.Node(page); e != api.OK || text(n) != text(has[page]) {
				t.Fatalf("Node(%d) = %+v, %d; want %+v", page, n, e, has[page])
			}
		}
	}
	put()
	put(api.Change{Page: 0, Node: leaf("x", 9, "abc")})
	put(api.Change{Page: 255, Node: leaf("", 0, "abc")}, api.Change{Page: 1, Node: inner(3, "z", 2, "", 7)})
	put(api.Change{Page: 4, Node: leaf("", 0, "a")}, api.Change{Page: 5, Node: leaf("", 0, "b")}, api.Change{Page: 4, Node: leaf("", 0, "c")})
	put(api.Change{Page: 0}, api.Change{Page: 255, Node: leaf("q", 1, "pp")})
	put(api.Change{Page: 6, Node: api.Node{Tree: -5, Level: math.MinInt, Stamp: -1, HasHigh: true, High: "raw", Right: math.MaxInt, List: []api.Entry{{Key: "b"}, {Key: "a", Ghost: true}, {}}}})
	put(api.Change{Page: 7, Node: api.Node{Tree: 256, Level: math.MaxInt, High: strings.Repeat("h", 1000), List: make([]api.Entry, 500)}})
	var all []api.Change
	for page := range 256 {
		all = append(all, api.Change{Page: page, Node: api.Node{Tree: page, List: []api.Entry{{Key: key(page)}}}})
	}
	put(all...)
	slices.Reverse(all)
	put(append(all, all...)...)
}

// P10.1: shelves keep nothing of each other.
func TestShelvesApart(t *testing.T) {
	a, b := blink.NewShelf(), blink.NewShelf()
	a.Put(api.Change{Page: 1, Node: leaf("", 0, "abc")})
	if n, _ := b.Node(1); text(n) != text(api.Node{}) {
		t.Fatalf("Node(1) = %+v", n)
	}
	b.Put(api.Change{Page: 1, Node: leaf("", 0, "d")})
	if n, _ := a.Node(1); text(n) != text(leaf("", 0, "abc")) {
		t.Fatalf("Node(1) = %+v", n)
	}
}

// P10.1: what was handed to a shelf, or answered by it, is changed by the caller: what is there stays as it was, and what was handed in wasn't changed, its spare room neither.
func TestShelfNewMemory(t *testing.T) {
	s := blink.NewShelf()
	n := leaf("", 0, "abcd")
	whole := slices.Clone(n.List)
	list := []api.Change{{Page: 1, Node: n}, {Page: 2, Node: api.Node{List: n.List[1:2]}}, {Page: 3}}
	s.Put(list[:2]...)
	look := func() {
		t.Helper()
		a, _ := s.Node(1)
		b, _ := s.Node(2)
		c, _ := s.Node(3)
		if text(a.List) != text(whole) || text(b.List) != text(whole[1:2]) || text(c) != text(api.Node{}) {
			t.Fatalf("%+v, %+v, %+v", a, b, c)
		}
	}
	if text(n.List) != text(whole) || list[2].Page != 3 || text(list[0].Node) != text(n) {
		t.Fatal("Put changed what was handed in")
	}
	look()
	for range 2 {
		for page := 1; page < 3; page++ {
			a, _ := s.Node(page)
			b, _ := s.Node(page)
			clear(a.List)
			_ = append(a.List, api.Entry{Key: "a"}, api.Entry{Key: "b"}, api.Entry{Key: "c"})
			if text(b.List) == text(a.List) {
				t.Fatal("two answers share a list")
			}
			look()
		}
	}
	clear(n.List)
	list[0] = api.Change{}
	look()
}

// P10.1: a nil shelf is ErrNil, ahead of all else, and nothing is put.
func TestNilShelf(t *testing.T) {
	var s *blink.Shelf
	s.Put()
	s.Put(api.Change{Page: 1, Node: leaf("", 0, "abc")}, api.Change{Page: -1})
	for _, page := range append(outside(), 0, 1, 255) {
		if n, e := s.Node(page); e != api.ErrNil || !reflect.DeepEqual(n, api.Node{}) {
			t.Errorf("Node(%d) = %+v, %d", page, n, e)
		}
		for level := -1; level < 3; level++ {
			for _, at := range []string{"", node.Low, k("b"), top} {
				refused(t, "a nil shelf", s, page, level, at, api.ErrNil)
				refused(t, "no pages", nil, page, level, at, api.ErrNil)
			}
		}
		for _, p := range []blink.Pages{s, nil} {
			if h, e := blink.Height(p, page); h != 0 || e != api.ErrNil {
				t.Errorf("Height = %d, %d", h, e)
			}
			if l, e := blink.List(p, page); len(l) != 0 || e != api.ErrNil {
				t.Errorf("List = %v, %d", l, e)
			}
		}
	}
}

// P10.3, P10.4: the chapter's examples.
func TestExample(t *testing.T) {
	s := blink.NewShelf()
	list, e := blink.Put(s, 1, api.Entry{Key: k("b"), Val: "x"})
	change(t, "Put", list, e, 1, api.Node{List: []api.Entry{{Key: k("b"), Val: "x"}}})
	s.Put(list...)
	list, e = blink.Put(s, 1, api.Entry{Key: k("a"), Val: "y"})
	change(t, "Put", list, e, 1, api.Node{List: []api.Entry{{Key: k("a"), Val: "y"}, {Key: k("b"), Val: "x"}}})
	s.Put(list...)
	list, post, e := blink.Split(s, 1, 0, k("a"), [2]int{3, 2})
	change(t, "Split", list, e,
		1, api.Node{Level: 1, List: []api.Entry{node.Lead(node.Low, 3), node.Lead(k("b"), 2)}},
		3, api.Node{HasHigh: true, High: k("b"), Right: 2, List: []api.Entry{{Key: k("a"), Val: "y"}}},
		2, api.Node{List: []api.Entry{{Key: k("b"), Val: "x"}}})
	if post != (api.Post{}) {
		t.Errorf("Post = %+v", post)
	}
}

// sought tells where the pages that Seek answers aren't these.
func sought(t testing.TB, p blink.Pages, root, level int, key string, pages ...int) {
	t.Helper()
	for range 2 {
		if got, e := blink.Seek(p, root, level, key); e != api.OK || !slices.Equal(got, pages) {
			t.Errorf("Seek(%d, %d, %q) = %v, %d; want %v", root, level, key, got, e, pages)
		}
	}
}

// P10.2: the pages of one node of each level, through nodes to which no entry leads yet.
func TestSeek(t *testing.T) {
	b := three()
	for _, c := range []struct {
		key   string
		pages []int
	}{
		{node.Low, []int{1, 2, 10}}, {"\x00\x00\x00\x00\x00\x00\x00\x00\x01", []int{1, 2, 10}}, {k("a"), []int{1, 2, 10}}, {k("b"), []int{1, 2, 10}}, {k("c"), []int{1, 2, 10}}, {"cccccccce", []int{1, 2, 10}},
		{"dddddddda", []int{1, 2, 10}}, {"dddddddd\x00", []int{1, 2, 10}}, {k("d"), []int{1, 2, 11}}, {k("e"), []int{1, 2, 11}}, {k("f"), []int{1, 2, 11}}, {"fggggggggg", []int{1, 2, 11}},
		{k("g"), []int{1, 2, 12}}, {k("h"), []int{1, 2, 12}}, {k("i"), []int{1, 2, 12}}, {k("l"), []int{1, 2, 12}},
		{k("m"), []int{1, 3, 13}}, {k("n"), []int{1, 3, 13}}, {k("r"), []int{1, 3, 13}},
		{k("s"), []int{1, 4, 14}}, {k("t"), []int{1, 4, 14}}, {k("u"), []int{1, 4, 15}}, {k("v"), []int{1, 4, 15}}, {k("x"), []int{1, 4, 15}}, {k("z"), []int{1, 4, 15}}, {top, []int{1, 4, 15}},
		// Keys that no entry has are sought too.
		{"m", []int{1, 2, 12}}, {"mm", []int{1, 2, 12}}, {k("m") + "x", []int{1, 3, 13}}, {top + top, []int{1, 4, 15}},
	} {
		for level := range 3 {
			sought(t, b, 1, level, c.key, c.pages[:3-level]...)
		}
		refused(t, "above the root", b, 1, 3, c.key, api.ErrForm)
		// From another node on.
		sought(t, b, c.pages[1], 0, c.key, c.pages[1:]...)
		sought(t, b, c.pages[2], 0, c.key, c.pages[2])
		sought(t, b, 10, 0, c.key, c.pages[2])
	}
	sought(t, two(), 1, 0, node.Low, 1, 5)
	sought(t, two(), 1, 0, k("f"), 1, 6)
	sought(t, two(), 1, 0, k("p"), 1, 7)
	sought(t, two(), 1, 0, k("z"), 1, 7)
	sought(t, two(), 1, 1, k("f"), 1)
	for _, at := range []string{"", node.Low, k("b"), k("e"), top} {
		sought(t, one(), 1, 0, at, 1)
		sought(t, blink.NewShelf(), 200, 0, at, 200)
	}
}

// P10.2: the last node of a level is it, also where it has a High that isn't above the key.
func TestSeekTheLast(t *testing.T) {
	b := book{1: inner(1, "m", 0, "", 2, "f", 3), 2: leaf("f", 3, "b"), 3: leaf("g", 0, "f")}
	for _, at := range []string{k("f"), k("g"), k("m"), k("z"), top} {
		sought(t, b, 1, 0, at, 1, 3)
		sought(t, b, 1, 1, at, 1)
		if _, ok, e := blink.Get(b, 1, at); ok != (at == k("f")) || e != api.OK {
			t.Errorf("Get(%q) = %v, %d", at, ok, e)
		}
	}
	// An entry of a key that the leaf doesn't cover can't be there, nor can one lead to it.
	if list, e := blink.Put(b, 1, api.Entry{Key: k("g")}); e != api.ErrArg || len(list) > 0 {
		t.Errorf("Put: %+v, %d", list, e)
	}
}

// P10.2: Get is the entry that has the key, ghosts too; false, if there is none.
func TestGet(t *testing.T) {
	ghost := book{1: leaf("", 0, "bdf")}
	ghost[1].List[1] = api.Entry{Key: k("d"), Val: "gone", Ghost: true}
	for i, b := range []book{three(), two(), one(), ghost, {1: {}}} {
		has := map[string]api.Entry{}
		for _, n := range b {
			for _, e := range n.List {
				if n.Level == 0 {
					has[e.Key] = e
				}
			}
		}
		for c := byte('a'); c <= 'z'; c++ {
			for _, at := range []string{k(string(c)), k(string(c))[:8], k(string(c)) + "x", k(string(c))[:8] + "\x00", k(string(c))[:8] + "\xff"} {
				entry, ok := has[at]
				if got, is, e := blink.Get(b, 1, at); got != entry || is != ok || e != api.OK {
					t.Errorf("tree %d: Get(%q) = %+v, %v, %d; want %+v, %v", i, at, got, is, e, entry, ok)
				}
			}
		}
		for _, at := range []string{node.Low, top, top + "x"} {
			if got, is, e := blink.Get(b, 1, at); got != (api.Entry{}) || is || e != api.OK {
				t.Errorf("tree %d: Get(%q) = %+v, %v, %d", i, at, got, is, e)
			}
		}
	}
	low := book{1: {List: []api.Entry{{Key: node.Low, Val: "l"}, {Key: top, Val: "t"}}}}
	for _, e := range low[1].List {
		if got, ok, _ := blink.Get(low, 1, e.Key); !ok || got != e {
			t.Errorf("Get(%q) = %+v, %v", e.Key, got, ok)
		}
	}
}

// P10.3: a new entry is in its place, another one's entry is in the place of that one.
func TestPut(t *testing.T) {
	for _, c := range []struct {
		letter string
		page   int
		at     int
		is     bool
	}{
		{"a", 10, 0, false}, {"b", 10, 0, true}, {"c", 10, 1, true}, {"d", 11, 0, true}, {"e", 11, 1, false}, {"f", 11, 1, true}, {"g", 12, 0, true}, {"h", 12, 1, false}, {"k", 12, 2, false},
		{"m", 13, 0, true}, {"n", 13, 1, false}, {"p", 13, 2, false}, {"s", 14, 0, false}, {"t", 14, 0, false}, {"u", 15, 0, false}, {"w", 15, 1, false}, {"x", 15, 1, true}, {"z", 15, 2, false},
	} {
		for _, e := range []api.Entry{{Key: k(c.letter), Val: "new"}, {Key: k(c.letter), Ghost: true}, {Key: k(c.letter), Val: strings.Repeat("w", 100)}, {Key: k(c.letter), Val: "v" + c.letter}} {
			b := three()
			n := b[c.page]
			if c.is {
				n.List = slices.Clone(n.List)
				n.List[c.at] = e
			} else {
				n.List = slices.Insert(slices.Clone(n.List), c.at, e)
			}
			list, err := blink.Put(b, 1, e)
			change(t, "Put of "+c.letter, list, err, c.page, n)
			if text(b) != text(three()) {
				t.Fatal("Put changed a node")
			}
		}
	}
}

// sized is a leaf of so many entries that takes n bytes of its page.
func sized(count, n int) api.Node {
	left := n - 20 - 11*count
	var all api.Node
	for i := range count {
		size := min(left, 100)
		left -= size
		all.List = append(all.List, api.Entry{Key: key(i * 10), Val: strings.Repeat("x", size)})
	}
	return all
}

// P10.3: an entry fits till the leaf has 252 bytes; with one more it is ErrSplit, be it a new one or in another's place.
func TestPutSplit(t *testing.T) {
	for _, size := range []int{0, 1, 7, 100} {
		for taken := 200; taken <= 252; taken++ {
			b := book{1: sized(4, taken)}
			list, e := blink.Put(b, 1, api.Entry{Key: key(15), Val: strings.Repeat("y", size)})
			if expected := taken+11+size <= 252; expected != (e == api.OK) || !expected && e != api.ErrSplit || expected != (len(list) == 1) {
				t.Errorf("Put of %d to %d: %+v, %d", size, taken, list, e)
			}
			was := len(b[1].List[3].Val)
			list, e = blink.Put(b, 1, api.Entry{Key: key(30), Val: strings.Repeat("y", size)})
			if expected := taken-was+size <= 252; expected != (e == api.OK) || !expected && e != api.ErrSplit || expected != (len(list) == 1) {
				t.Errorf("Put of %d in the place of %d to %d: %+v, %d", size, was, taken, list, e)
			}
		}
	}
	for count := range 40 {
		b := book{1: sized(count, 20+11*count)}
		expected := api.OK
		if count >= 21 {
			expected = api.ErrSplit
		}
		if _, e := blink.Put(b, 1, api.Entry{Key: key(5)}); e != expected {
			t.Errorf("Put of one more than %d: %d; want %d", count, e, expected)
		}
	}
}

// P10.3: a leaf that can't be with the entry is ErrArg, also where there would be no room for it.
func TestPutArg(t *testing.T) {
	for _, e := range []api.Entry{
		{Key: "short"}, {Key: k("e")[:8]}, {Key: k("e") + "x"}, {Key: k("d")[:8]}, {Key: strings.Repeat("k", 300)},
		{Key: k("e"), Val: strings.Repeat("v", 101)}, {Key: k("d"), Val: strings.Repeat("v", 101)}, {Key: k("e"), Val: strings.Repeat("v", 300)}, {Key: k("x"), Val: strings.Repeat("v", 1000), Ghost: true},
	} {
		full := book{1: sized(4, 252)}
		for i, b := range []book{three(), one(), full, {1: {}}, two()} {
			if list, err := blink.Put(b, 1, e); err != api.ErrArg || len(list) > 0 {
				t.Errorf("tree %d: Put(%+v) = %+v, %d", i, e, list, err)
			}
		}
	}
	for _, b := range []book{one(), {1: {}}} {
		if list, err := blink.Put(b, 1, api.Entry{}); err != api.ErrArg || len(list) > 0 {
			t.Errorf("Put of nothing: %+v, %d", list, err)
		}
	}
	// A leaf that can't be as it is.
	for _, n := range []api.Node{{Tree: 256}, {Stamp: -1}, {Right: 300}, {High: "high"}, {List: []api.Entry{{Key: k("c")}, {Key: k("b")}}}, {List: []api.Entry{{Key: "b"}}}} {
		if list, err := blink.Put(book{1: n}, 1, api.Entry{Key: k("e")}); err != api.ErrArg || len(list) > 0 {
			t.Errorf("Put into %+v: %+v, %d", n, list, err)
		}
	}
}

// P10.3: Drop of the first, the last, the only entry, of a ghost; ErrMiss, if there is none.
func TestDrop(t *testing.T) {
	b := three()
	n := leaf("d", 11, "bc")
	n.List = n.List[1:]
	list, e := blink.Drop(b, 1, k("b"))
	change(t, "the first one", list, e, 10, n)
	n = leaf("m", 13, "gi")
	n.List = n.List[:1]
	list, e = blink.Drop(b, 1, k("i"))
	change(t, "the last one", list, e, 12, n)
	list, e = blink.Drop(one(), 1, k("d"))
	change(t, "the one between", list, e, 1, leaf("", 0, "bf"))
	only := book{1: inner(1, "", 0, "", 2), 2: {Tree: 1, Stamp: 8, List: []api.Entry{{Key: k("b"), Ghost: true}}}}
	list, e = blink.Drop(only, 1, k("b"))
	change(t, "the only one", list, e, 2, api.Node{Tree: 1, Stamp: 8})
	list, e = blink.Drop(book{1: {List: []api.Entry{{Key: node.Low, Val: "x"}}}}, 1, node.Low)
	change(t, "Low", list, e, 1, api.Node{})
	for _, c := range []struct {
		b    book
		keys []string
	}{
		{three(), []string{node.Low, k("a"), k("e"), k("h"), k("l"), k("s"), k("t"), k("u"), k("z"), top, k("b")[:8], k("b") + "b", "c"}},
		{two(), []string{k("a"), k("f"), k("p"), k("q")}},
		{one(), []string{"", node.Low, k("a"), k("c"), k("e"), k("g")}},
		{book{1: {}}, []string{"", node.Low, k("a"), top}},
	} {
		for _, at := range c.keys {
			if list, e := blink.Drop(c.b, 1, at); e != api.ErrMiss || len(list) > 0 {
				t.Errorf("Drop(%q) = %+v, %d", at, list, e)
			}
		}
	}
	if text(b) != text(three()) {
		t.Fatal("Drop changed a node")
	}
}

// many is a node of a level with so many entries.
func many(level, count int, high string, right int) api.Node {
	n := api.Node{Tree: 200, Level: level, HasHigh: high != "", High: high, Right: right}
	for i := range count {
		e := api.Entry{Key: key(i * 10), Val: "v", Ghost: i%3 == 1}
		if level > 0 {
			e = node.Lead(key(i*10), i+100)
		}
		n.List = append(n.List, e)
	}
	return n
}

// counts is how many entries nodes have that are split.
func counts() []int { return []int{0, 1, 2, 3, 4, 5, 6, 7, 16, 17, 20, 21, 60, 100} }

// P10.4: a node that isn't the root, at the leaves and above, with and without High and Right; the place from which the second half is; the order of the changes, and what is left to do.
func TestSplit(t *testing.T) {
	for _, count := range counts() {
		for level := range 4 {
			for _, right := range []int{0, 77} {
				high := strings.Repeat(top, right/77)
				b := book{1: {Tree: 200, Level: level + 1, List: []api.Entry{node.Lead(node.Low, 9)}}, 9: many(level, count, high, right)}
				list, post, e := blink.Split(b, 1, level, key(1), [2]int{33, 44})
				if count < 2 {
					if e != api.ErrArg || len(list) > 0 || post != (api.Post{}) {
						t.Errorf("Split of %d at %d: %+v, %+v, %d", count, level, list, post, e)
					}
					continue
				}
				n, half := many(level, count, high, right), count/2
				first, second := n, n
				first.HasHigh, first.High, first.Right, first.List = true, key(half*10), 33, n.List[:half]
				second.List = n.List[half:]
				change(t, fmt.Sprint("Split of ", count, " at ", level), list, e, 9, first, 33, second)
				if post != (api.Post{Tree: 200, Level: level + 1, Key: key(half * 10), Page: 33}) {
					t.Errorf("Split of %d at %d: %+v", count, level, post)
				}
			}
		}
	}
}

// P10.4: the root: both halves have pages of their own, and nothing is left to do.
func TestSplitRoot(t *testing.T) {
	for _, count := range counts() {
		for level := range 12 {
			for _, root := range []int{0, 1, 255} {
				b := book{root: many(level, count, "", 0)}
				list, post, e := blink.Split(b, root, level, key(1), [2]int{44, 33})
				if post != (api.Post{}) {
					t.Errorf("Split of %d at %d: %+v", count, level, post)
				}
				if count < 2 {
					if e != api.ErrArg || len(list) > 0 {
						t.Errorf("Split of %d at %d: %+v, %d", count, level, list, e)
					}
					continue
				}
				n, half := many(level, count, "", 0), count/2
				first, second, above := n, n, n
				first.HasHigh, first.High, first.Right, first.List = true, key(half*10), 33, n.List[:half]
				second.List = n.List[half:]
				above.Level, above.List = level+1, []api.Entry{node.Lead(node.Low, 44), node.Lead(key(half*10), 33)}
				change(t, fmt.Sprint("Split of ", count, " at ", level), list, e, root, above, 44, first, 33, second)
			}
		}
	}
}

// P10.4: the second half of a root has neither High nor Right, whatever the root had.
func TestSplitRootWithRight(t *testing.T) {
	b := book{1: leaf("x", 7, "bd"), 7: leaf("", 0, "x")}
	list, post, e := blink.Split(b, 1, 0, k("c"), [2]int{3, 4})
	if e != api.OK || post != (api.Post{}) || len(list) != 3 || list[2].Page != 4 || list[2].Node.HasHigh || list[2].Node.High != "" || list[2].Node.Right != 0 || list[1].Node.High != k("d") || list[1].Node.Right != 4 {
		t.Errorf("Split: %+v, %+v, %d", list, post, e)
	}
	// Another node of its level is none.
	list, post, e = blink.Split(book{1: leaf("x", 7, "bd"), 7: leaf("", 0, "xy")}, 1, 0, k("x"), [2]int{3, 4})
	if e != api.OK || post != (api.Post{Tree: 5, Level: 1, Key: k("y"), Page: 3}) || len(list) != 2 || list[0].Page != 7 {
		t.Errorf("Split: %+v, %+v, %d", list, post, e)
	}
}

// tower is a tree whose root, the page 1, is at a level, with so many entries there; of each level one node, the page 100 and its level.
func tower(level, count int) book {
	b := book{100: many(0, 3, "", 0)}
	for l := 1; l < level; l++ {
		b[100+l] = api.Node{Tree: 200, Level: l, List: []api.Entry{node.Lead(node.Low, 99+l)}}
	}
	n := api.Node{Tree: 200, Level: level}
	for i := range count {
		at := key(i)
		if i == 0 {
			at = node.Low
		}
		n.List = append(n.List, node.Lead(at, 99+level))
	}
	b[1] = n
	return b
}

// P10.4: a root at the level MaxHeight is ErrFull, unless it has fewer than two entries; one level below it isn't; another node of such a tree is parted as any.
func TestSplitMaxHeight(t *testing.T) {
	for _, count := range counts()[1:] {
		expected := api.ErrFull
		if count < 2 {
			expected = api.ErrArg
		}
		for _, at := range []string{node.Low, key(0), key(50), top} {
			list, post, e := blink.Split(tower(12, count), 1, 12, at, [2]int{2, 3})
			if e != expected || len(list) > 0 || post != (api.Post{}) {
				t.Errorf("Split of %d: %+v, %+v, %d; want %d", count, list, post, e, expected)
			}
		}
	}
	list, _, e := blink.Split(tower(11, 2), 1, 11, top, [2]int{2, 3})
	if e != api.OK || len(list) != 3 || list[0].Node.Level != 12 || list[1].Node.Level != 11 || list[2].Node.Level != 11 {
		t.Errorf("Split: %+v, %d", list, e)
	}
	list, post, e := blink.Split(tower(12, 1), 1, 0, top, [2]int{2, 3})
	if e != api.OK || len(list) != 2 || post != (api.Post{Tree: 200, Level: 1, Key: key(10), Page: 2}) {
		t.Errorf("Split: %+v, %+v, %d", list, post, e)
	}
	sought(t, tower(12, 1), 1, 0, top, 1, 111, 110, 109, 108, 107, 106, 105, 104, 103, 102, 101, 100)
	if h, e := blink.Height(tower(12, 3), 1); h != 13 || e != api.OK {
		t.Errorf("Height = %d, %d", h, e)
	}
}

// P10.4: the node is found by its key, through nodes to which no entry leads yet.
func TestSplitFinds(t *testing.T) {
	for _, c := range []struct {
		level int
		key   string
		page  int
	}{
		{0, node.Low, 10}, {0, k("c"), 10}, {0, k("d"), 11}, {0, k("g"), 12}, {0, k("l"), 12}, {0, k("m"), 13}, {0, k("z"), 15}, {1, node.Low, 2}, {1, k("l"), 2}, {1, k("s"), 4}, {1, k("z"), 4},
	} {
		b := three()
		n := b[c.page]
		list, post, e := blink.Split(b, 1, c.level, c.key, [2]int{50, 51})
		s := n.List[1].Key
		first, second := n, n
		first.HasHigh, first.High, first.Right, first.List = true, s, 50, n.List[:1]
		second.List = n.List[1:]
		if len(list) == 2 {
			list[1].Node.Stamp = n.Stamp
		}
		change(t, "Split", list, e, c.page, first, 50, second)
		if post != (api.Post{Tree: 5, Level: c.level + 1, Key: s, Page: 50}) {
			t.Errorf("Split: %+v", post)
		}
		if text(b) != text(three()) {
			t.Fatal("Split changed a node")
		}
	}
	for _, c := range []struct {
		level int
		key   string
	}{{0, k("s")}, {1, k("m")}, {1, k("n")}} {
		if list, post, e := blink.Split(three(), 1, c.level, c.key, [2]int{50, 51}); e != api.ErrArg || len(list) > 0 || post != (api.Post{}) {
			t.Errorf("Split: %+v, %+v, %d", list, post, e)
		}
	}
}

// P10.4, Rule 6: the pages that are handed in may be any numbers; they are where the halves are.
func TestSplitAnyPages(t *testing.T) {
	for _, free := range [][2]int{{0, 0}, {-1, -2}, {256, 65536}, {math.MinInt, math.MaxInt}, {1, 1}, {7, 7}} {
		list, _, e := blink.Split(one(), 1, 0, k("b"), free)
		if e != api.OK || len(list) != 3 || list[1].Page != free[0] || list[2].Page != free[1] || list[1].Node.Right != free[1] || node.Child(list[0].Node.List[0]) != int(uint16(free[0])) || node.Child(list[0].Node.List[1]) != int(uint16(free[1])) {
			t.Errorf("Split with %v: %+v, %d", free, list, e)
		}
		list, post, e := blink.Split(three(), 1, 0, k("b"), free)
		if e != api.OK || len(list) != 2 || list[1].Page != free[0] || list[0].Node.Right != free[0] || post.Page != free[0] {
			t.Errorf("Split with %v: %+v, %+v, %d", free, list, post, e)
		}
	}
}

// P10.5: what is left to do is done: an entry leads to the page; the second time nothing changes.
func TestHang(t *testing.T) {
	for _, c := range []struct {
		post api.Post
		page int
		n    api.Node
	}{
		{api.Post{Tree: 5, Level: 1, Key: k("g"), Page: 12}, 2, inner(1, "m", 3, "", 10, "d", 11, "g", 12)},
		{api.Post{Tree: 5, Level: 2, Key: k("s"), Page: 4}, 1, inner(2, "", 0, "", 2, "m", 3, "s", 4)},
		// Where it stands hangs on the Key alone.
		{api.Post{Level: 1, Key: k("c"), Page: 255}, 2, inner(1, "m", 3, "", 10, "c", 255, "d", 11)},
		{api.Post{Tree: -1, Level: 1, Key: k("t"), Page: 7}, 4, inner(1, "", 0, "s", 14, "t", 7, "u", 15)},
		{api.Post{Level: 1, Key: k("z"), Page: -1}, 4, inner(1, "", 0, "s", 14, "u", 15, "z", 65535)},
		{api.Post{Level: 1, Key: k("z"), Page: 65537}, 4, inner(1, "", 0, "s", 14, "u", 15, "z", 1)},
		{api.Post{Level: 1, Key: k("o"), Page: 0}, 3, inner(1, "s", 4, "m", 13, "o", 0)},
		{api.Post{Level: 2, Key: k("f"), Page: 9}, 1, inner(2, "", 0, "", 2, "f", 9, "m", 3)},
	} {
		b := three()
		list, e := blink.Hang(b, 1, c.post)
		change(t, fmt.Sprintf("Hang of %+v", c.post), list, e, c.page, c.n)
		if text(b) != text(three()) {
			t.Fatal("Hang changed a node")
		}
		b.put(list...)
		list, e = blink.Hang(b, 1, c.post)
		change(t, "Hang again", list, e)
		c.post.Page++
		list, e = blink.Hang(b, 1, c.post)
		change(t, "Hang of another page", list, e)
	}
	// An entry of the key is there, also where it leads elsewhere, or there would be no room.
	for _, at := range []string{node.Low, k("d")} {
		list, e := blink.Hang(three(), 1, api.Post{Level: 1, Key: at, Page: 200})
		change(t, "Hang of "+at, list, e)
	}
	list, e := blink.Hang(book{1: many(1, 17, "", 0)}, 1, api.Post{Level: 1, Key: key(160), Page: 200})
	change(t, "Hang where there is no room", list, e)
	list, e = blink.Hang(book{1: many(1, 30, "", 0)}, 1, api.Post{Level: 1, Key: key(0), Page: 200})
	change(t, "Hang where there is too much", list, e)
}

// P10.5: where there is no room it is ErrSplit: seventeen entries fit that lead to pages; ErrSplit, too, where no node with the entry can be.
func TestHangSplit(t *testing.T) {
	for count := 1; count < 30; count++ {
		for _, at := range []int{5, count*5/2*2 + 5, count*10 + 5} {
			b := book{1: many(1, count, "", 0)}
			list, e := blink.Hang(b, 1, api.Post{Level: 1, Key: key(at), Page: 7})
			if expected := count < 17; expected != (e == api.OK) || !expected && e != api.ErrSplit || expected != (len(list) == 1) {
				t.Errorf("Hang to %d: %+v, %d", count, list, e)
			}
		}
	}
	for _, at := range []string{"d", k("e")[:8], k("e") + "x", k("z") + k("z")} {
		if list, e := blink.Hang(three(), 1, api.Post{Level: 1, Key: at, Page: 7}); e != api.ErrSplit || len(list) > 0 {
			t.Errorf("Hang of %q: %+v, %d", at, list, e)
		}
	}
	if list, e := blink.Hang(book{1: inner(1, "m", 0, "", 2)}, 1, api.Post{Level: 1, Key: k("m"), Page: 7}); e != api.ErrSplit || len(list) > 0 {
		t.Errorf("Hang: %+v, %d", list, e)
	}
}

// P10.5: of several that are left to do any may be next: those of one level, of several, of a node that was parted since, of a root that grew since.
func TestHangInAnyOrder(t *testing.T) {
	orders := [][]int{{0, 1, 2}, {0, 2, 1}, {1, 0, 2}, {1, 2, 0}, {2, 0, 1}, {2, 1, 0}}
	for _, order := range orders {
		b := two()
		var posts []api.Post
		for i, at := range []string{"g", "h", "i", "j", "k", "l", "n"} {
			list, e := blink.Put(b, 1, api.Entry{Key: k(at)})
			if e != api.OK {
				t.Fatal(i, e)
			}
			b.put(list...)
		}
		for i := range 3 {
			// The last one parts the node above: the key l is in the second half of the leaf f, then in the half of that.
			list, post, e := blink.Split(b, 1, 0, k("l"), [2]int{20 + i, 0})
			if e != api.OK {
				t.Fatal(i, e)
			}
			b.put(list...)
			posts = append(posts, post)
			if i == 1 {
				list, _, e := blink.Split(b, 1, 1, k("l"), [2]int{30, 31})
				if e != api.OK {
					t.Fatal(e)
				}
				b.put(list...)
			}
		}
		sound(t, b, 1, posts)
		left := slices.Clone(posts)
		for _, i := range order {
			list, e := blink.Hang(b, 1, posts[i])
			if e != api.OK || len(list) != 1 || list[0].Node.Level != 1 {
				t.Fatalf("Hang of %+v: %+v, %d", posts[i], list, e)
			}
			b.put(list...)
			left = slices.DeleteFunc(left, func(x api.Post) bool { return x == posts[i] })
			sound(t, b, 1, left)
		}
		if len(left) > 0 {
			t.Fatal(left)
		}
	}
}

// shrinks tells where a leaf isn't taken out as expected.
func shrinks(t testing.TB, b book, key string, page int, expected ...any) {
	t.Helper()
	was := text(b)
	list, got, e := blink.Shrink(b, 1, key)
	change(t, "Shrink", list, e, expected...)
	if got != page || text(b) != was {
		t.Errorf("Shrink frees %d; want %d", got, page)
	}
}

// stays tells where a leaf is taken out that may not go.
func stays(t testing.TB, what string, b book, keys ...string) {
	t.Helper()
	for _, at := range keys {
		if list, page, e := blink.Shrink(b, 1, at); e != api.ErrState || len(list) > 0 || page != 0 {
			t.Errorf("%s: Shrink(%q) = %+v, %d, %d; want ErrState", what, at, list, page, e)
		}
	}
}

// P10.6: a leaf that may go: the one ahead has its High and Right, and nothing leads to it.
func TestShrink(t *testing.T) {
	for _, at := range []string{k("f"), k("g"), k("o")} {
		shrinks(t, two(), at, 6, 5, leaf("p", 7, "bc"), 1, inner(1, "", 0, "", 5, "p", 7))
	}
	for _, at := range []string{k("p"), k("q"), top} {
		shrinks(t, two(), at, 7, 6, leaf("", 0, ""), 1, inner(1, "", 0, "", 5, "f", 6))
	}
	// One behind the other: each step's tree is sound.
	b := two()
	for _, at := range []string{k("p"), k("f")} {
		list, page, e := blink.Shrink(b, 1, at)
		if e != api.OK {
			t.Fatal(e)
		}
		b.put(list...)
		delete(b, page)
		sound(t, b, 1, nil)
	}
	if text(b) != text(book{1: inner(1, "", 0, "", 5), 5: leaf("", 0, "bc")}) {
		t.Errorf("%+v", b)
	}
	stays(t, "the first one", b, k("b"), k("z"))
	// In a tree of three levels; the leaf's Right may be one to which nothing leads yet, and the node above, too.
	b = three()
	b[11] = leaf("g", 12, "")
	shrinks(t, b, k("e"), 11, 10, leaf("g", 12, "bc"), 2, inner(1, "m", 3, "", 10))
	b[15] = leaf("", 0, "")
	shrinks(t, b, k("v"), 15, 14, leaf("", 0, ""), 4, inner(1, "", 0, "s", 14))
}

// P10.6: ErrState of the root, of a leaf with entries, a ghost's too, of one to which nothing leads yet, of the first one of its node above, of one behind a node whose Right isn't it.
func TestShrinkState(t *testing.T) {
	stays(t, "a root", one(), node.Low, k("b"), k("z"))
	stays(t, "an empty root", book{1: {}}, "", node.Low, k("b"), k("z"))
	stays(t, "with entries", three(), k("d"), k("e"), k("u"), k("z"))
	ghost := two()
	ghost[6] = api.Node{Tree: 5, HasHigh: true, High: k("p"), Right: 7, List: []api.Entry{{Key: k("h"), Ghost: true}}}
	stays(t, "with a ghost", ghost, k("f"), k("h"))
	b := three()
	b[12] = leaf("m", 13, "")
	stays(t, "nothing leads to it", b, k("g"), k("h"), k("l"))
	b[10] = leaf("d", 11, "")
	stays(t, "the first one of the first node", b, node.Low, k("b"))
	b[13] = leaf("s", 14, "")
	stays(t, "the first one of another node", b, k("m"), k("n"))
	stays(t, "the first one of a node to which nothing leads", b, k("s"), k("t"))
	// Ahead of it is a leaf to which nothing leads yet: the one that the entry ahead leads to has another Right.
	b = three()
	b[2] = inner(1, "m", 3, "", 10, "g", 12)
	b[12] = leaf("m", 13, "")
	stays(t, "behind one to which nothing leads", b, k("g"), k("i"))
	b[10] = leaf("g", 12, "bcdf")
	delete(b, 11)
	shrinks(t, b, k("g"), 12, 10, leaf("m", 13, "bcdf"), 2, inner(1, "m", 3, "", 10))
	// The same, where the last one is it.
	b = two()
	b[5] = leaf("c", 8, "b")
	b[8] = leaf("f", 6, "c")
	stays(t, "behind one to which nothing leads", b, k("f"), k("o"))
	shrinks(t, b, k("p"), 7, 6, leaf("", 0, ""), 1, inner(1, "", 0, "", 5, "f", 6))
}

// P10.6: trees that aren't sound: the entry ahead leads to no leaf, or nowhere, or to what can't be read; that is told only of a leaf that could go.
func TestShrinkUnsound(t *testing.T) {
	for _, c := range []struct {
		what string
		page int
		n    api.Node
		e    api.Errno
	}{
		{"can't be read", 9, api.Node{}, api.ErrDown},
		{"is the node above", 1, api.Node{}, api.ErrForm},
		{"is no leaf, and its Right is it", 5, inner(1, "f", 6, "", 7), api.ErrForm},
		{"is no leaf, and its Right isn't it", 5, inner(1, "f", 0, "", 7), api.ErrForm},
		{"is a leaf, and its Right isn't it", 5, leaf("f", 7, "b"), api.ErrState},
		{"is it", 6, leaf("p", 7, ""), api.ErrState},
	} {
		b := two()
		b[1] = inner(1, "", 0, "", c.page, "f", 6, "p", 7)
		if c.page > 1 && c.page < 9 {
			b[c.page] = c.n
		}
		was := deep(b)
		if list, page, e := blink.Shrink(b, 1, k("g")); e != c.e || len(list) > 0 || page != 0 || deep(b) != was {
			t.Errorf("what is ahead %s: Shrink = %+v, %d, %d; want %d", c.what, list, page, e, c.e)
		}
		// The first one isn't asked what is ahead, nor is one to which the entry doesn't lead.
		b[6] = leaf("g", 8, "")
		b[8] = leaf("p", 7, "")
		stays(t, c.what, b, k("g"), k("h"))
	}
	for _, val := range []string{"", "\x05", "\x05\x00\x00"} {
		b := two()
		b[1].List[0].Val = val
		b[0] = leaf("f", 6, "b")
		if list, page, e := blink.Shrink(b, 1, k("g")); e != api.ErrForm || len(list) > 0 || page != 0 {
			t.Errorf("what is ahead is of %q: Shrink = %+v, %d, %d", val, list, page, e)
		}
	}
	// Two leaves have it as their Right.
	b := two()
	b[5] = leaf("f", 8, "b")
	b[6] = leaf("h", 8, "f")
	b[8] = leaf("p", 7, "")
	stays(t, "not led to", b, k("h"), k("i"))
}

// P10.7: all entries, from the left leaf on, and how many levels there are.
func TestListAndHeight(t *testing.T) {
	ghost := book{1: {List: []api.Entry{{Key: node.Low, Ghost: true}, {Key: k("b"), Val: "x"}, {Key: top, Ghost: true}}}}
	bare := book{1: inner(1, "", 0, "", 5, "f", 6), 5: leaf("f", 6, ""), 6: leaf("", 0, "")}
	for i, c := range []struct {
		b      book
		list   []api.Entry
		height int
	}{
		{three(), leaf("", 0, "bcdfgimovx").List, 3}, {two(), leaf("", 0, "bc").List, 2}, {one(), leaf("", 0, "bdf").List, 1}, {book{1: {}}, nil, 1}, {ghost, ghost[1].List, 1}, {bare, nil, 2},
		{tower(12, 1), many(0, 3, "", 0).List, 13},
	} {
		was := text(c.b)
		for range 2 {
			if list, e := blink.List(c.b, 1); e != api.OK || text(list) != text(c.list) {
				t.Errorf("tree %d: List = %+v, %d; want %+v", i, list, e, c.list)
			}
			if h, e := blink.Height(c.b, 1); h != c.height || e != api.OK {
				t.Errorf("tree %d: Height = %d, %d; want %d", i, h, e, c.height)
			}
		}
		if text(c.b) != was {
			t.Errorf("tree %d was changed", i)
		}
	}
	for page, n := range three() {
		if h, e := blink.Height(three(), page); h != n.Level+1 || e != api.OK {
			t.Errorf("Height of %d = %d, %d", page, h, e)
		}
	}
	if h, e := blink.Height(book{}, 1); h != 0 || e != api.ErrDown {
		t.Errorf("Height = %d, %d", h, e)
	}
	// A Right that leads to no leaf.
	if list, e := blink.List(book{1: leaf("f", 2, "b"), 2: inner(1, "", 0, "f", 3), 3: leaf("", 0, "f")}, 1); e != api.ErrForm || len(list) > 0 {
		t.Errorf("List = %+v, %d", list, e)
	}
}

// P10.2: levels below 0, and above the root's, are ErrForm.
func TestLevels(t *testing.T) {
	for i, b := range []book{three(), two(), one(), {1: {}}, tower(12, 2)} {
		height, _ := blink.Height(b, 1)
		for _, level := range []int{-1, -2, math.MinInt, height, height + 1, 13, math.MaxInt} {
			for _, at := range []string{"", node.Low, k("b"), k("e"), k("m"), key(0), key(20), top} {
				refused(t, fmt.Sprint("tree ", i), b, 1, level, at, api.ErrForm)
			}
		}
	}
	// An entry of a leaf leads nowhere, also where its Val is as a page's number.
	b := book{1: {List: []api.Entry{node.Lead(node.Low, 1), node.Lead(k("b"), 2)}}, 2: {}}
	refused(t, "a leaf's entry", b, 1, -1, k("a"), api.ErrForm)
	refused(t, "a leaf's entry", b, 1, -1, k("c"), api.ErrForm)
}

// P10.1: trees that aren't sound: each call ends, and is refused.
func TestUnsound(t *testing.T) {
	with := func(b book, page int, n api.Node) book {
		b[page] = n
		return b
	}
	odd := inner(1, "", 0, "", 5, "f", 6, "p", 7)
	for _, c := range []struct {
		what string
		b    book
		key  string
		e    api.Errno
	}{
		{"no entry is ahead of it", with(two(), 1, inner(1, "", 0, "f", 6, "p", 7)), k("b"), api.ErrForm},
		{"a node without entries", with(two(), 1, inner(1, "", 0)), k("b"), api.ErrForm},
		{"a node without entries, below the root", with(three(), 2, inner(1, "m", 3)), k("b"), api.ErrForm},
		{"an entry leads to the node", with(two(), 1, inner(1, "", 0, "", 1, "f", 6)), k("b"), api.ErrForm},
		{"an entry leads to the root", with(three(), 2, inner(1, "m", 3, "", 1)), k("b"), api.ErrForm},
		{"an entry leads to a node of its level", with(three(), 2, inner(1, "m", 3, "", 10, "d", 3)), k("e"), api.ErrForm},
		{"an entry leads to a node of its level, from which there is a way", with(with(three(), 2, inner(1, "m", 3, "", 10, "d", 20)), 20, inner(1, "m", 3, "", 11)), k("e"), api.ErrForm},
		{"an entry leads above, from where there is a way", with(with(three(), 2, inner(1, "m", 3, "", 20)), 20, inner(2, "", 0, "", 4)), k("b"), api.ErrForm},
		{"an entry leads two levels below", with(three(), 1, inner(2, "", 0, "", 10, "m", 3)), k("b"), api.ErrForm},
		{"an entry leads above", with(two(), 5, inner(2, "f", 6, "", 1)), k("b"), api.ErrForm},
		{"an entry leads to a page that can't be read", with(two(), 1, inner(1, "", 0, "", 99, "f", 6)), k("b"), api.ErrDown},
		{"an entry leads to a page that there isn't", with(two(), 1, inner(1, "", 0, "", 256, "f", 6)), k("b"), api.ErrDown},
		{"a Right leads to a page that can't be read", with(two(), 5, leaf("b", 99, "")), k("b"), api.ErrDown},
		{"a Right leads to a page that there isn't", with(two(), 5, leaf("b", -1, "")), k("b"), api.ErrDown},
		{"the root's Right can't be read", with(two(), 1, inner(1, "b", 99, "", 5)), k("b"), api.ErrDown},
		{"the root can't be read", book{}, k("b"), api.ErrDown},
		{"a Right leads to the leaf", with(two(), 5, leaf("b", 5, "")), k("b"), api.ErrForm},
		{"a root's Right leads to it", book{1: leaf("b", 1, "")}, k("b"), api.ErrForm},
		{"a Right leads to the node", with(three(), 2, inner(1, "b", 2, "", 10)), k("b"), api.ErrForm},
		{"Rights go round", book{1: leaf("b", 2, ""), 2: leaf("c", 3, ""), 3: leaf("a", 1, "")}, k("c"), api.ErrForm},
		{"Rights go round behind the beginning", with(with(two(), 5, leaf("b", 6, "")), 6, leaf("c", 6, "")), k("d"), api.ErrForm},
		{"Rights go round, above", with(with(three(), 2, inner(1, "b", 3, "", 10)), 3, inner(1, "a", 2, "", 10)), k("b"), api.ErrForm},
		{"Rights lead up, and entries down again", with(two(), 5, leaf("b", 1, "")), k("c"), api.ErrForm},
	} {
		refused(t, c.what, c.b, 1, 0, c.key, c.e)
	}
	// Vals that aren't pages' numbers, also where the page 0 would be one level below.
	for _, val := range []string{"", "\x05", "\x05\x00\x00", strings.Repeat("\x05", 100)} {
		b := with(with(two(), 1, odd), 0, leaf("", 0, ""))
		b[1].List[0].Val = val
		refused(t, fmt.Sprintf("an entry of %q", val), b, 1, 0, k("b"), api.ErrForm)
	}
	for level := 1; level < 4; level++ {
		refused(t, "the root is below", one(), 1, level, k("b"), api.ErrForm)
		refused(t, "the root is below, and its Right goes round", book{1: leaf("b", 1, "")}, 1, level, k("b"), api.ErrForm)
		refused(t, "the root can't be read", book{}, 1, level, k("b"), api.ErrDown)
	}
	refused(t, "the root is below, and what is below it can't be read", book{1: inner(1, "", 0, "", 5)}, 1, 2, k("b"), api.ErrForm)
	refused(t, "the Right is below", with(three(), 2, inner(1, "b", 10, "", 10)), 1, 1, k("b"), api.ErrForm)
}

// P10.1: the same on a shelf, where each page but those that there aren't has a node.
func TestUnsoundShelf(t *testing.T) {
	for _, c := range []struct {
		root api.Node
		e    api.Errno
	}{
		{inner(1, "", 0, "", 256), api.ErrArg}, {inner(1, "", 0, "", 65535), api.ErrArg}, {inner(1, "", 0, "", 1), api.ErrForm}, {inner(2, "", 0, "", 7), api.ErrForm}, {inner(12, "", 0, "", 0), api.ErrForm},
		{leaf("a", 1, ""), api.ErrForm}, {leaf("a", -1, ""), api.ErrArg}, {leaf("a", 256, ""), api.ErrArg}, {inner(1, "a", 1, "", 5), api.ErrForm}, {inner(1, "", 0), api.ErrForm},
	} {
		s := blink.NewShelf()
		s.Put(api.Change{Page: 1, Node: c.root})
		refused(t, text(c.root), s, 1, 0, k("b"), c.e)
	}
	for _, root := range outside() {
		for level := range 3 {
			refused(t, "no such root", blink.NewShelf(), root, level, node.Low, api.ErrArg)
		}
		if h, e := blink.Height(blink.NewShelf(), root); h != 0 || e != api.ErrArg {
			t.Errorf("Height = %d, %d", h, e)
		}
	}
}

// P10.7: List of trees that aren't sound ends, and is refused.
func TestUnsoundList(t *testing.T) {
	for i, c := range []struct {
		b book
		e api.Errno
	}{
		{book{1: leaf("", 1, "b")}, api.ErrForm}, {book{1: leaf("c", 2, "b"), 2: leaf("", 1, "c")}, api.ErrForm}, {book{1: leaf("c", 2, "b"), 2: leaf("", 2, "c")}, api.ErrForm},
		{book{1: leaf("c", 2, "b")}, api.ErrDown}, {book{1: leaf("c", -5, "b")}, api.ErrDown}, {book{}, api.ErrDown}, {book{1: inner(1, "", 0, "", 1)}, api.ErrForm}, {book{1: inner(1, "", 0, "b", 2), 2: leaf("", 0, "b")}, api.ErrForm},
	} {
		if list, e := blink.List(c.b, 1); e != c.e || len(list) > 0 {
			t.Errorf("tree %d: List = %+v, %d; want %d", i, list, e, c.e)
		}
	}
}

// rights is so many leaves, the pages from 1 on, of which each but the last one leads to the next one; above is so many levels above the first one.
func rights(count, above int, asked *int) maker {
	return func(page int) (api.Node, api.Errno) {
		*asked++
		if page > 1000 {
			n := api.Node{Level: page - 1000, List: []api.Entry{node.Lead(node.Low, page-1)}}
			if page == 1001 {
				n.List[0] = node.Lead(node.Low, 1)
			}
			return n, api.OK
		}
		n := api.Node{HasHigh: true, High: key(page), Right: page + 1, List: []api.Entry{{Key: key(page - 1)}}}
		if page == count {
			n.HasHigh, n.High, n.Right = false, "", 0
		}
		return n, api.OK
	}
}

// P10.2: a seek that takes MaxPages nodes comes to its end, one that takes more is ErrForm, and ends.
func TestMaxPages(t *testing.T) {
	for _, above := range []int{0, 1, 2, 12} {
		for _, count := range []int{1, 2, 200, 256 - above, 257 - above, 258 - above, 900} {
			asked := 0
			p := rights(count, above, &asked)
			root := 1000 + above
			if above == 0 {
				root = 1
			}
			pages, e := blink.Seek(p, root, 0, top)
			if count+above > 256 {
				if e != api.ErrForm || len(pages) > 0 || asked > 257 {
					t.Errorf("Seek over %d and %d: %v, %d, having asked %d times", above, count, pages, e, asked)
				}
				refused(t, fmt.Sprint(count, " and ", above), p, root, 0, top, api.ErrForm)
				continue
			}
			if e != api.OK || len(pages) != above+1 || pages[above] != count {
				t.Errorf("Seek over %d and %d: %v, %d", above, count, pages, e)
			}
			if list, e := blink.List(p, root); e != api.OK || len(list) != count || list[count-1].Key != key(count-1) {
				t.Errorf("List over %d and %d: %d, %d", above, count, len(list), e)
			}
			if _, ok, e := blink.Get(p, root, key(count-1)); !ok || e != api.OK {
				t.Errorf("Get over %d and %d: %v, %d", above, count, ok, e)
			}
		}
	}
	// To the right without an end.
	asked := 0
	if list, e := blink.List(rights(-1, 0, &asked), 1); e != api.ErrForm || len(list) > 0 || asked > 1000 {
		t.Errorf("List: %d, %d, having asked %d times", len(list), e, asked)
	}
}

// faulty is pages of which so many nodes are answered, then errors.
type faulty struct {
	blink.Pages
	left int
	e    api.Errno
	came bool
}

func (f *faulty) Node(page int) (api.Node, api.Errno) {
	if f.left == 0 {
		f.came = true
		return api.Node{}, f.e
	}
	f.left--
	return f.Pages.Node(page)
}

// height is Height of the tree whose root is the page 1.
func height(p blink.Pages) answer {
	h, e := blink.Height(p, 1)
	return told("Height", e, nil, h)
}

// every is each call on the tree whose root is the page 1, of some keys, at some levels.
func every() []asker {
	all := []asker{height}
	for _, at := range []string{node.Low, k("b"), k("e"), k("f"), k("g"), k("p"), k("s"), k("z")} {
		for level := range 3 {
			all = append(all, askers(1, level, at)...)
		}
	}
	return all
}

// trees is sound trees of one, two and three levels; of some a leaf may be taken out.
func trees() []book {
	b := three()
	b[11] = leaf("g", 12, "")
	b[15] = leaf("", 0, "")
	return []book{three(), b, two(), one(), {1: {}}}
}

// P10.1: an error in the midst of a call is its answer, and nothing beside it, wherever it comes; nothing is changed.
func TestErrorsInTheMidst(t *testing.T) {
	for i, b := range trees() {
		was := deep(b)
		for _, ask := range every() {
			whole := ask(b)
			for _, e := range []api.Errno{api.ErrDown, api.ErrArg, api.ErrForm, api.ErrNil} {
				for left := 0; ; left++ {
					f := &faulty{b, left, e, false}
					a := ask(f)
					if !f.came {
						if a.all != whole.all || a.e != whole.e || left == 0 || left > 10 {
							t.Errorf("tree %d: %s without a fault, behind %d nodes: %+v; want %+v", i, a.name, left, a, whole)
						}
						break
					}
					if a.e != e || !a.zero {
						t.Errorf("tree %d: %s with a fault behind %d nodes: %+v; want %d, nothing", i, a.name, left, a, e)
					}
				}
			}
		}
		if deep(b) != was {
			t.Errorf("tree %d was changed", i)
		}
	}
}

// Rule 3: the nodes that pages answer aren't changed, the spare room of their lists neither; what the caller does with an answer plays no part, and its lists share nothing.
func TestNewMemory(t *testing.T) {
	for i, b := range trees() {
		b = roomy(b)
		was := deep(b)
		for _, ask := range every() {
			whole := ask(b)
			if deep(b) != was {
				t.Fatalf("tree %d: %s changed a node", i, whole.name)
			}
			for at := range whole.list {
				a := ask(b)
				list := a.list[at].Node.List
				clear(list[:cap(list)])
				for other, c := range a.list {
					if other != at && text(c) != text(whole.list[other]) {
						t.Fatalf("tree %d: two lists that %s answers share what they hold", i, a.name)
					}
				}
				if deep(b) != was || text(ask(b).list) != text(whole.list) {
					t.Fatalf("tree %d: an answer of %s shares a node's list", i, a.name)
				}
			}
		}
		list, _ := blink.List(b, 1)
		clear(list[:cap(list)])
		if deep(b) != was {
			t.Fatalf("tree %d: an answer of List shares a node's list", i)
		}
	}
}

// Rule 4: what was asked ahead plays no part.
func TestAgain(t *testing.T) {
	for i, b := range trees() {
		var all []string
		for _, ask := range every() {
			all = append(all, ask(b).all)
		}
		for at, ask := range slices.Backward(every()) {
			if got := ask(b).all; got != all[at] {
				t.Errorf("tree %d: call %d answers %s; then %s", i, at, all[at], got)
			}
		}
	}
}

// P1: nothing panics, whatever the nodes hold, and whatever is asked for.
func TestRawNodes(t *testing.T) {
	numbers := []int{math.MinInt, -1, 0, 1, 2, 3, 255, 256, math.MaxInt}
	keys := []string{"", node.Low, k("b"), "raw", top, top + top}
	lists := [][]api.Entry{nil, {{}}, {{Key: "b"}, {Key: "a"}}, {{Key: k("b")}, {Key: k("b")}}, {node.Lead("", 1)}, {node.Lead("", 2), node.Lead(k("b"), 3), node.Lead("", 4)}, make([]api.Entry, 300)}
	for _, level := range numbers {
		for i, list := range lists {
			for _, right := range numbers {
				n := api.Node{Tree: right, Level: level, Stamp: level, HasHigh: i%2 == 0, High: keys[i%len(keys)], Right: right, List: list}
				below := n
				below.Level--
				b := book{1: n, 2: below, 3: n, 0: below}
				for _, at := range keys {
					for _, sought := range numbers {
						for _, ask := range askers(1, sought, at) {
							ask(b)
						}
					}
				}
				height(b)
				blink.List(b, 1)
			}
		}
	}
}

// stretch is a node of a twin: its page, the key with which its keys begin, and its entries.
type stretch struct {
	page  int
	begin string
	list  []api.Entry
}

// twin is a tree told in another way: of each level, from the leaves up, its nodes from the left. A node is found by the keys with which nodes begin, not by going from one to another.
type twin struct {
	tree   int
	levels [][]stretch
}

// clone is a twin that shares nothing with this one.
func (w *twin) clone() *twin {
	c := &twin{tree: w.tree}
	for _, l := range w.levels {
		l = slices.Clone(l)
		for i := range l {
			l[i].list = slices.Clone(l[i].list)
		}
		c.levels = append(c.levels, l)
	}
	return c
}

// at is the place in its level of the node that covers a key.
func (w *twin) at(level int, key string) int {
	at := 0
	for i, x := range w.levels[level] {
		if x.begin <= key {
			at = i
		}
	}
	return at
}

// node is a node of the tree.
func (w *twin) node(level, at int) api.Node {
	n := api.Node{Tree: w.tree, Level: level, List: w.levels[level][at].list}
	if at+1 < len(w.levels[level]) {
		next := w.levels[level][at+1]
		n.HasHigh, n.High, n.Right = true, next.begin, next.page
	}
	return n
}

// nodes is all nodes of the tree, by their pages.
func (w *twin) nodes() book {
	b := book{}
	for level, l := range w.levels {
		for at, x := range l {
			b[x.page] = w.node(level, at)
		}
	}
	return b
}

// seek is the pages of the nodes that cover a key, from the root's down to that of a level.
func (w *twin) seek(level int, key string) []int {
	var pages []int
	for l := len(w.levels) - 1; l >= level; l-- {
		pages = append(pages, w.levels[l][w.at(l, key)].page)
	}
	return pages
}

// has is the place of the entry of a key; -1, if there is none.
func (x *stretch) has(key string) int {
	return slices.IndexFunc(x.list, func(e api.Entry) bool { return e.Key == key })
}

// size is how many bytes the node takes.
func (x *stretch) size() int {
	size := 20
	for _, e := range x.list {
		size += 11 + len(e.Val)
	}
	return size
}

// set has an entry be there, unless it makes the node take more than 252 bytes; the pages that are changed.
func (w *twin) set(level int, e api.Entry) ([]int, api.Errno) {
	x := &w.levels[level][w.at(level, e.Key)]
	was := x.list
	x.list = slices.DeleteFunc(slices.Clone(was), func(o api.Entry) bool { return o.Key == e.Key })
	x.list = append(x.list, e)
	slices.SortFunc(x.list, func(a, b api.Entry) int { return strings.Compare(a.Key, b.Key) })
	if x.size() > 252 {
		x.list = was
		return nil, api.ErrSplit
	}
	return []int{x.page}, api.OK
}

// drop has an entry not be there.
func (w *twin) drop(key string) ([]int, api.Errno) {
	x := &w.levels[0][w.at(0, key)]
	i := x.has(key)
	if i < 0 {
		return nil, api.ErrMiss
	}
	x.list = append(slices.Clone(x.list[:i]), x.list[i+1:]...)
	return []int{x.page}, api.OK
}

// split parts a node: the new one stands behind it; a root gets a level above it, and the page stays that level's.
func (w *twin) split(level int, key string, free [2]int) ([]int, api.Post, api.Errno) {
	i := w.at(level, key)
	x := w.levels[level][i]
	if len(x.list) < 2 {
		return nil, api.Post{}, api.ErrArg
	}
	half := len(x.list) / 2
	s := x.list[half].Key
	a, b := stretch{x.page, x.begin, x.list[:half:half]}, stretch{free[0], s, x.list[half:]}
	if level+1 < len(w.levels) {
		w.levels[level] = slices.Replace(w.levels[level], i, i+1, a, b)
		return []int{x.page, free[0]}, api.Post{Tree: w.tree, Level: level + 1, Key: s, Page: free[0]}, api.OK
	}
	a.page, b.page = free[0], free[1]
	w.levels[level] = []stretch{a, b}
	w.levels = append(w.levels, []stretch{{page: x.page, list: []api.Entry{node.Lead(node.Low, a.page), node.Lead(s, b.page)}}})
	return []int{x.page, free[0], free[1]}, api.Post{}, api.OK
}

// hang has a key lead to a page.
func (w *twin) hang(x api.Post) ([]int, api.Errno) {
	if w.levels[x.Level][w.at(x.Level, x.Key)].has(x.Key) >= 0 {
		return nil, api.OK
	}
	return w.set(x.Level, node.Lead(x.Key, x.Page))
}

// shrink takes a leaf out of its level: it is led to by the key with which it begins, and so is the one on its left, by the entry ahead.
func (w *twin) shrink(key string) ([]int, int, api.Errno) {
	i := w.at(0, key)
	leaf := w.levels[0][i]
	if len(w.levels) == 1 || len(leaf.list) > 0 {
		return nil, 0, api.ErrState
	}
	above := &w.levels[1][w.at(1, key)]
	led := above.has(leaf.begin)
	if i == 0 || led < 1 || above.list[led-1].Val != node.Lead("", w.levels[0][i-1].page).Val {
		return nil, 0, api.ErrState
	}
	above.list = append(slices.Clone(above.list[:led]), above.list[led+1:]...)
	w.levels[0] = append(slices.Clone(w.levels[0][:i]), w.levels[0][i+1:]...)
	return []int{w.levels[0][i-1].page, above.page}, leaf.page, api.OK
}

// player has a tree be changed, beside its twin, and tells where they aren't the same.
type player struct {
	testing.TB
	pages blink.Pages
	write func(list ...api.Change)
	twin  *twin
	rows  map[string]api.Entry
	posts []api.Post
	free  []int
}

// begin is a player of an empty tree, whose root is the page 1; the pages from 2 on are free.
func begin(t testing.TB, p blink.Pages, write func(list ...api.Change), tree int) *player {
	t.Helper()
	g := &player{TB: t, pages: p, write: write, rows: map[string]api.Entry{}}
	g.twin = &twin{tree: tree, levels: [][]stretch{{{page: 1}}}}
	for page := 2; page < 256; page++ {
		g.free = append(g.free, page)
	}
	write(api.Change{Page: 1, Node: api.Node{Tree: tree}})
	return g
}

// inBook is a player of an empty tree in a book.
func inBook(t testing.TB) *player {
	t.Helper()
	b := book{}
	return begin(t, b, b.put, 3)
}

// branch is a player in a book that goes on from here, and shares nothing with this one.
func (g *player) branch() *player {
	b := maps.Clone(g.pages.(book))
	return &player{TB: g.TB, pages: b, write: b.put, twin: g.twin.clone(), rows: maps.Clone(g.rows), posts: slices.Clone(g.posts), free: slices.Clone(g.free)}
}

// unstamped is a node with the Stamp 0.
func unstamped(n api.Node) api.Node {
	n.Stamp = 0
	return n
}

// took tells where changes aren't those of the twin, in the order of these pages, or the error isn't the twin's; they are done then.
func (g *player) took(what string, list []api.Change, e api.Errno, pages []int, expected api.Errno) {
	g.Helper()
	var all, want []api.Change
	nodes := g.twin.nodes()
	for _, c := range list {
		all = append(all, api.Change{Page: c.Page, Node: unstamped(c.Node)})
	}
	for _, page := range pages {
		want = append(want, api.Change{Page: page, Node: nodes[page]})
	}
	if e != expected || text(all) != text(want) {
		g.Fatalf("%s: %d\n%+q; want %d\n%+q", what, e, text(all), expected, text(want))
	}
	g.write(list...)
}

func (g *player) put(e api.Entry) api.Errno {
	g.Helper()
	list, err := blink.Put(g.pages, 1, e)
	pages, expected := g.twin.set(0, e)
	g.took("Put", list, err, pages, expected)
	if err == api.OK {
		g.rows[e.Key] = e
	}
	return err
}

func (g *player) drop(key string) {
	g.Helper()
	list, e := blink.Drop(g.pages, 1, key)
	pages, expected := g.twin.drop(key)
	g.took("Drop", list, e, pages, expected)
	delete(g.rows, key)
}

// split parts a node with the first pages that are free, if there are two.
func (g *player) split(level int, key string) bool {
	g.Helper()
	if len(g.free) < 2 || level >= len(g.twin.levels) {
		return false
	}
	free := [2]int(g.free)
	list, post, e := blink.Split(g.pages, 1, level, key, free)
	pages, want, expected := g.twin.split(level, key, free)
	g.took("Split", list, e, pages, expected)
	if post != want {
		g.Fatalf("Split: %+v; want %+v", post, want)
	}
	if e == api.OK {
		g.free = g.free[len(list)-1:]
	}
	if post != (api.Post{}) {
		g.posts = append(g.posts, post)
	}
	return e == api.OK
}

// hang does one of what is left to do, if there is room.
func (g *player) hang(at int) api.Errno {
	g.Helper()
	if len(g.posts) == 0 {
		return api.OK
	}
	at %= len(g.posts)
	list, e := blink.Hang(g.pages, 1, g.posts[at])
	pages, expected := g.twin.hang(g.posts[at])
	g.took("Hang", list, e, pages, expected)
	if e == api.OK {
		again, e := blink.Hang(g.pages, 1, g.posts[at])
		g.took("Hang again", again, e, nil, api.OK)
		g.posts = slices.Delete(slices.Clone(g.posts), at, at+1)
	}
	return e
}

func (g *player) shrink(key string) {
	g.Helper()
	list, page, e := blink.Shrink(g.pages, 1, key)
	pages, want, expected := g.twin.shrink(key)
	g.took("Shrink", list, e, pages, expected)
	if page != want {
		g.Fatalf("Shrink frees %d; want %d", page, want)
	}
	if e == api.OK {
		g.free = append([]int{page}, g.free...)
		if b, ok := g.pages.(book); ok {
			delete(b, page)
		}
	}
}

// look tells where the tree isn't sound, or isn't what was put, and wasn't dropped.
func (g *player) look(keys ...string) {
	g.Helper()
	sound(g, g.pages, 1, g.posts)
	if h, e := blink.Height(g.pages, 1); h != len(g.twin.levels) || e != api.OK {
		g.Fatalf("Height = %d, %d; want %d", h, e, len(g.twin.levels))
	}
	var rows []api.Entry
	for _, at := range slices.Sorted(maps.Keys(g.rows)) {
		rows = append(rows, g.rows[at])
	}
	if list, e := blink.List(g.pages, 1); e != api.OK || !slices.Equal(list, rows) {
		g.Fatalf("List = %+v, %d; want %+v", list, e, rows)
	}
	for _, at := range keys {
		row, ok := g.rows[at]
		if got, is, e := blink.Get(g.pages, 1, at); got != row || is != ok || e != api.OK {
			g.Fatalf("Get(%q) = %+v, %v, %d; want %+v, %v", at, got, is, e, row, ok)
		}
		for level := range g.twin.levels {
			if got, e := blink.Seek(g.pages, 1, level, at); e != api.OK || !slices.Equal(got, g.twin.seek(level, at)) {
				g.Fatalf("Seek(%d, %q) = %v, %d; want %v", level, at, got, e, g.twin.seek(level, at))
			}
		}
	}
}

// sound tells where a tree isn't sound, or other nodes aren't led to than those that are left to do.
func sound(t testing.TB, p blink.Pages, root int, left []api.Post) {
	t.Helper()
	top, e := p.Node(root)
	if e != api.OK || top.HasHigh || top.Right != 0 {
		t.Fatalf("the root is %+v, %d", top, e)
	}
	seen := map[int]bool{}
	todo := map[api.Post]bool{}
	for _, x := range left {
		todo[x] = true
	}
	first, leads := root, map[int]string{root: ""}
	for level := top.Level; level >= 0; level-- {
		begins, below := "", map[int]string{}
		next := -1
		for page := first; ; {
			n, e := p.Node(page)
			if e != api.OK || seen[page] || n.Tree != top.Tree || n.Level != level || !node.Fits(n) {
				t.Fatalf("the page %d is %+v, %d; want one of the level %d", page, n, e, level)
			}
			seen[page] = true
			if len(n.List) > 0 && n.List[0].Key < begins || level > 0 && (len(n.List) == 0 || n.List[0].Key != max(begins, node.Low)) {
				t.Fatalf("the page %d begins with %q; it is %+v", page, begins, n)
			}
			for _, x := range n.List {
				if level > 0 {
					below[node.Child(x)] = x.Key
				}
			}
			if level > 0 && next < 0 {
				next = node.Child(n.List[0])
			}
			x := api.Post{Tree: top.Tree, Level: level + 1, Key: begins, Page: page}
			if by, ok := leads[page]; ok == todo[x] || ok && by != begins && by != max(begins, node.Low) {
				t.Fatalf("to the page %d, which begins with %q, there leads %q, %v; left to do is %+v", page, begins, by, ok, left)
			}
			delete(leads, page)
			delete(todo, x)
			if !n.HasHigh {
				if n.Right != 0 {
					t.Fatalf("the page %d is the last one, and leads to %d", page, n.Right)
				}
				break
			}
			begins, page = n.High, n.Right
		}
		if len(leads) > 0 {
			t.Fatalf("at the level %d entries lead to %v", level, leads)
		}
		first, leads = next, below
	}
	if len(todo) > 0 {
		t.Fatalf("there is left to do %v", todo)
	}
}

// P10.8: every order of few changes, from several trees on.
func TestEveryOrder(t *testing.T) {
	for _, start := range []struct {
		depth int
		begin func(g *player)
	}{
		{4, func(g *player) {}},
		{4, func(g *player) {
			g.fill("bdfh")
			g.split(0, k("b"))
			g.split(0, k("h"))
		}},
		{4, func(g *player) {
			g.fill("bcdefghi")
			g.split(0, k("b"))
			g.split(0, k("f"))
			g.split(0, k("h"))
			g.hang(1)
			g.split(1, k("b"))
			g.drop(k("f"))
			g.drop(k("g"))
		}},
		{4, func(g *player) {
			g.fill("bef")
			g.split(0, k("b"))
			g.split(0, k("f"))
			g.hang(0)
			g.drop(k("e"))
			g.drop(k("f"))
		}},
	} {
		g := inBook(t)
		start.begin(g)
		g.orders(start.depth)
	}
}

// fill puts entries with the keys of some letters.
func (g *player) fill(letters string) {
	g.Helper()
	for _, c := range strings.Split(letters, "") {
		if e := g.put(api.Entry{Key: k(c), Val: c}); e != api.OK {
			g.Fatalf("Put: %d", e)
		}
	}
}

// orders goes on with every order of so many changes.
func (g *player) orders(depth int) {
	g.Helper()
	g.look(k("b"), k("e"), k("f"), k("z"))
	if depth == 0 {
		return
	}
	b, e, f := k("b"), k("e"), k("f")
	for _, step := range []func(g *player){
		func(g *player) { g.put(api.Entry{Key: b, Val: "x"}) },
		func(g *player) { g.put(api.Entry{Key: e, Ghost: true}) },
		func(g *player) { g.drop(b) },
		func(g *player) { g.drop(e) },
		func(g *player) { g.drop(f) },
		func(g *player) { g.split(0, b) },
		func(g *player) { g.split(0, f) },
		func(g *player) { g.split(1, b) },
		func(g *player) { g.split(1, f) },
		func(g *player) { g.hang(0) },
		func(g *player) { g.hang(len(g.posts) - 1) },
		func(g *player) { g.shrink(b) },
		func(g *player) { g.shrink(e) },
		func(g *player) { g.shrink(f) },
	} {
		next := g.branch()
		step(next)
		next.orders(depth - 1)
	}
}

// keyOf is one of the keys of a script, Low and the greatest one among them.
func keyOf(b byte) string {
	switch b {
	case 0:
		return node.Low
	case 255:
		return top
	}
	return key(int(b) * 3)
}

// step does what two bytes of a script say.
func (g *player) step(what, b byte) {
	g.Helper()
	at := keyOf(b)
	switch what % 16 {
	case 0, 1, 2, 3, 4, 5, 6:
		e := api.Entry{Key: at, Val: strings.Repeat("v", int(what)*7%101), Ghost: what%3 == 0}
		for g.put(e) == api.ErrSplit && g.split(0, at) {
		}
	case 7, 8, 9:
		g.drop(at)
	case 10, 11:
		g.split(int(b)%3, keyOf(what))
	case 12, 13:
		for g.hang(int(b)) == api.ErrSplit {
			x := g.posts[int(b)%len(g.posts)]
			if !g.split(x.Level, x.Key) {
				break
			}
		}
	case 14, 15:
		for range what % 3 {
			g.drop(at)
		}
		g.shrink(at)
	}
}

// mixed is n bytes among which there is no plain rule; others for another seed.
func mixed(seed, n int) []byte {
	b := make([]byte, n)
	x := uint32(seed + 1)
	for i := range b {
		x = x*1664525 + 1013904223
		b[i] = byte(x >> 24)
	}
	return b
}

// play plays a script of bytes, looks at the tree each so often, and at last, when all that is left to do is done.
func (g *player) play(script []byte, often int) {
	g.Helper()
	for i := 0; i+1 < len(script); i += 2 {
		g.step(script[i], script[i+1])
		if i/2%often == 0 {
			g.look(keyOf(script[i]), keyOf(script[i+1]))
		}
	}
	g.look()
	for rounds := 0; len(g.posts) > 0 && rounds < 1000; rounds++ {
		g.step(12, byte(rounds*7))
	}
	var keys []string
	for b := range 256 {
		keys = append(keys, keyOf(byte(b)))
	}
	g.look(keys...)
}

// P10.8: long rows of all changes, what is left to do done in whatever order, or late.
func TestLongRows(t *testing.T) {
	for seed := range 12 {
		script := mixed(seed, 6000)
		g := inBook(t)
		if seed%3 == 1 {
			s := blink.NewShelf()
			g = begin(t, s, s.Put, 200)
		}
		for i := 0; i < len(script); i += 2 {
			switch {
			// Of some rows nothing is hung till late, of some much is dropped at last.
			case seed%4 == 1 && i < 4000 && script[i]%16 >= 12 && script[i]%16 < 14:
				script[i] -= 12
			case seed%4 == 2 && i > 3000 && script[i]%16 < 7:
				script[i] += 8
			}
		}
		g.play(script, 11)
	}
}

// P10.8: all that was put is dropped, and all leaves but the first one of each node above are taken out.
func TestAllOut(t *testing.T) {
	g := inBook(t)
	for i := range 256 {
		g.step(byte(i%7), byte(i*101))
	}
	for len(g.posts) > 0 {
		g.step(13, byte(len(g.posts)*5))
	}
	h, _ := blink.Height(g.pages, 1)
	if h < 3 || len(g.rows) != 256 {
		t.Fatalf("%d levels, %d rows", h, len(g.rows))
	}
	g.look()
	for i := range 256 {
		g.drop(keyOf(byte(i * 55)))
	}
	for range 2 {
		for i := range 256 {
			g.shrink(keyOf(byte(i * 77)))
		}
	}
	g.look()
	if leaves := len(g.twin.levels[0]); leaves != len(g.twin.levels[1]) {
		t.Errorf("%d leaves are left, below %d nodes", leaves, len(g.twin.levels[1]))
	}
}

// P10.8: the same over a tray, which writes pages, and reads them again.
func TestOverTray(t *testing.T) {
	m := mains.New()
	l, _, e := diary.Open(reel.New(m, 100))
	if e != api.OK {
		t.Fatal(e)
	}
	y := tray.New(slab.New(m, 256), l)
	stamp := 0
	g := begin(t, y, func(list ...api.Change) {
		stamp++
		if e := y.Put(stamp, list...); e != api.OK {
			t.Fatalf("Put of %+v: %d", list, e)
		}
		y.Evict(stamp * 7 % 256)
	}, 0)
	g.play(mixed(77, 3000), 20)
	m.Off()
	if e := y.Flush(); e != api.ErrDown {
		t.Fatal(e)
	}
	fresh := tray.New(slab.New(m, 256), l)
	for i, ask := range every() {
		if a := ask(fresh); a.e != api.ErrDown || !a.zero {
			t.Errorf("call %d, %s, without power: %+v", i, a.name, a)
		}
	}
}

// P10.8, P1: whatever the script, the tree is sound, and what its twin is.
func FuzzPlay(f *testing.F) {
	for seed := range 8 {
		f.Add(mixed(seed, 200))
	}
	f.Add([]byte{})
	f.Fuzz(func(t *testing.T, script []byte) {
		inBook(t).play(script[:min(len(script), 2000)], 3)
	})
}

// P1, P10.1: whatever nodes there are, each call ends, and answers nothing beside an error.
func FuzzRaw(f *testing.F) {
	f.Add(1, 0, true, "bbbbbbbbb", 2, "aaaaaaaaa", "\x02\x00", 0, "aaaaaaaaa")
	f.Add(0, 0, true, "b", 1, "b", "v", -1, "c")
	f.Add(12, 11, false, "", 0, node.Low, "\x01\x00", 12, top)
	f.Fuzz(func(t *testing.T, a, b int, has bool, high string, right int, at, val string, level int, key string) {
		n := api.Node{Level: a, HasHigh: has, High: high, Right: right, List: []api.Entry{{Key: at, Val: val}, {Key: at + "x", Val: val}}}
		m := n
		m.Level = b
		s := blink.NewShelf()
		s.Put(api.Change{Page: 1, Node: n}, api.Change{Page: 2, Node: m}, api.Change{Page: 3, Node: n})
		for _, l := range []int{level, 0} {
			for _, ask := range append(askers(1, l, key), height) {
				if a := ask(s); a.e != api.OK && !a.zero {
					t.Fatalf("%+v", a)
				}
			}
		}
	})
}
