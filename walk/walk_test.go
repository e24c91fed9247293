package walk_test

import (
	"fmt"
	"maps"
	"math"
	"slices"
	"strings"
	"testing"

	"gauger/api"
	"gauger/blink"
	"gauger/diary"
	"gauger/mains"
	"gauger/node"
	"gauger/reel"
	"gauger/slab"
	"gauger/tray"
	"gauger/walk"
)

// book is nodes by their pages, that are answered as they are: whoever changes what is answered changes them. A page that isn't in it is ErrDown, as one that can't be read.
type book map[int]api.Node

func (b book) Node(page int) (api.Node, api.Errno) {
	n, ok := b[page]
	if !ok {
		return api.Node{}, api.ErrDown
	}
	return n, api.OK
}

// with is a book in which a page has another node.
func (b book) with(page int, n api.Node) book {
	b = maps.Clone(b)
	b[page] = n
	return b
}

// maker is pages whose nodes are made as they are asked for.
type maker func(page int) (api.Node, api.Errno)

func (m maker) Node(page int) (api.Node, api.Errno) { return m(page) }

// k is the key of nine times a letter.
func k(letter string) string { return strings.Repeat(letter, api.CodeSize) }

// key is a key of nine bytes; those of greater numbers are above.
func key(n int) string { return fmt.Sprintf("key%06d", n) }

// row is the entry of a letter: its Val is the letter; that of a capital is a ghost, with the key of the small one.
func row(letter string) api.Entry {
	small := strings.ToLower(letter)
	return api.Entry{Key: k(small), Val: letter, Ghost: small != letter}
}

// rows is the entries of some letters.
func rows(letters string) []api.Entry {
	var list []api.Entry
	for _, c := range letters {
		list = append(list, row(string(c)))
	}
	return list
}

// leaf is a leaf of the entries of some letters; without High, if that is "".
func leaf(high string, right int, letters string) api.Node {
	return api.Node{Tree: 7, Stamp: 9, HasHigh: high != "", High: k(high), Right: right, List: rows(letters)}
}

// stretch is a node of a tree: the letter with which its keys begin, "" of the first one; the letters of a leaf's entries; whether no entry leads to it yet.
type stretch struct {
	begins  string
	letters string
	loose   bool
	page    int
}

// above is an entry that leads to a stretch.
func (s stretch) above() api.Entry {
	if s.begins == "" {
		return node.Lead(node.Low, s.page)
	}
	return node.Lead(k(s.begins), s.page)
}

// tree is a sound tree, of the root 1 at a level, of some leaves, whose pages are those from 10 on; a node between them and the root leads to two nodes, if there are two, and to some of these nodes no entry leads yet.
func tree(level int, leaves ...stretch) book {
	b := book{}
	var lists [][]api.Entry
	for _, s := range leaves {
		lists = append(lists, rows(s.letters))
	}
	for at := range level {
		leaves, lists = b.lay(at, leaves, lists)
		if at == level-1 {
			lists = [][]api.Entry{slices.Concat(lists...)}
		}
	}
	b[1] = api.Node{Level: level, List: lists[0]}
	return b
}

// lay lays the nodes of a level, and tells those of the next one: where they begin, and their entries.
func (b book) lay(level int, here []stretch, lists [][]api.Entry) ([]stretch, [][]api.Entry) {
	var next []stretch
	var leads [][]api.Entry
	for i := range here {
		here[i].page = 10 + 20*level + i
		n := api.Node{Level: level, List: lists[i]}
		if i+1 < len(here) {
			n.HasHigh, n.High, n.Right = true, k(here[i+1].begins), here[i].page+1
		}
		b[here[i].page] = n
		if here[i].loose {
			continue
		}
		if last := len(leads) - 1; last < 0 || len(leads[last]) == 2 {
			next = append(next, stretch{begins: here[i].begins, loose: len(next)%2 == 1})
			leads = append(leads, nil)
		}
		leads[len(leads)-1] = append(leads[len(leads)-1], here[i].above())
	}
	return next, leads
}

// three is a sound tree of three levels: to one leaf in the midst, and to the last one, no entry leads yet; two leaves have no entries, one in the midst and the last one.
func three() book {
	return tree(2, stretch{letters: "bc"}, stretch{begins: "d", letters: "df"}, stretch{begins: "g", letters: "Gi", loose: true}, stretch{begins: "m"}, stretch{begins: "p", letters: "rS"}, stretch{begins: "v", loose: true})
}

// trees is sound trees of one, two and three levels, by the letters of all their entries.
func trees() map[string]book {
	return map[string]book{
		"":         {1: {}},
		"bdf":      {1: leaf("", 0, "bdf")},
		"Bd":       tree(1, stretch{letters: "Bd"}),
		"cE":       tree(1, stretch{}, stretch{begins: "c", letters: "cE"}, stretch{begins: "f"}),
		"df":       tree(1, stretch{}, stretch{begins: "c", loose: true}, stretch{begins: "d", letters: "df", loose: true}),
		"bcdfGirS": three(),
		"efghijlm": tree(3, stretch{letters: "e"}, stretch{begins: "f", letters: "fg"}, stretch{begins: "h", letters: "h", loose: true}, stretch{begins: "i", letters: "ij"}, stretch{begins: "k"}, stretch{begins: "l", letters: "lm"}),
	}
}

// text is all that something holds, lists of nothing alike.
func text(x any) string { return fmt.Sprintf("%+v", x) }

// deep is all that a book holds, the spare room of its lists too.
func deep(b book) string {
	all := ""
	for _, page := range slices.Sorted(maps.Keys(b)) {
		n := b[page]
		all += fmt.Sprintf("%d: %+v %+v\n", page, n, n.List[:cap(n.List)])
	}
	return all
}

// answer is what a call answered, as text; zero, if all that there is beside the error is.
type answer struct {
	name string
	e    api.Errno
	all  string
	zero bool
}

// asker is a call of some arguments, over pages.
type asker func(p blink.Pages) answer

// one tells of a call that answers an entry.
func one(name string, call func(p blink.Pages, root int, key string) (api.Entry, bool, api.Errno), root int, key string) asker {
	return func(p blink.Pages) answer {
		x, ok, e := call(p, root, key)
		return answer{name, e, text(x) + text(ok), x == api.Entry{} && !ok}
	}
}

// between is Range.
func between(root int, low, high string) asker {
	return func(p blink.Pages) answer {
		list, end, e := walk.Range(p, root, low, high)
		return answer{fmt.Sprintf("Range to %q", high), e, text(list) + text(end), len(list) == 0 && end == ""}
	}
}

// askers is each call of a key, of which Seek tells whether it is refused; Range of it alone, of all from it on, of less than it, and with a low above it.
func askers(root int, key string) []asker {
	return []asker{
		one("Next", walk.Next, root, key),
		one("After", walk.After, root, key),
		func(p blink.Pages) answer {
			end, e := walk.Gap(p, root, key)
			return answer{"Gap", e, end, end == ""}
		},
		between(root, key, key),
		between(root, key, walk.End+"x"),
		between(root, key+"x", key),
		between(root, walk.End+"x", key),
	}
}

// refused tells where one of the calls isn't refused with an error, as Seek is, and nothing beside it.
func refused(t testing.TB, what string, p blink.Pages, root int, key string, e api.Errno) {
	t.Helper()
	if pages, f := blink.Seek(p, root, 0, key); f != e || len(pages) > 0 {
		t.Errorf("%s: Seek of %q: %v, %d; want %d", what, key, pages, f, e)
	}
	for _, ask := range askers(root, key) {
		if a := ask(p); a.e != e || !a.zero {
			t.Errorf("%s: %s of %q: %d, %s; want %d, nothing", what, a.name, key, a.e, a.all, e)
		}
	}
}

// nexts tells where Next, After or Gap of a key isn't as the letters say; "" says that there is none.
func nexts(t testing.TB, p blink.Pages, root int, key, next, after string) {
	t.Helper()
	want := func(letter string) (api.Entry, bool, string) {
		if letter == "" {
			return api.Entry{}, false, walk.End
		}
		return row(letter), true, row(letter).Key
	}
	for range 2 {
		entry, is, _ := want(next)
		if x, ok, e := walk.Next(p, root, key); x != entry || ok != is || e != api.OK {
			t.Errorf("Next(%q) = %+v, %v, %d; want %q", key, x, ok, e, next)
		}
		entry, is, gap := want(after)
		if x, ok, e := walk.After(p, root, key); x != entry || ok != is || e != api.OK {
			t.Errorf("After(%q) = %+v, %v, %d; want %q", key, x, ok, e, after)
		}
		if got, e := walk.Gap(p, root, key); got != gap || e != api.OK {
			t.Errorf("Gap(%q) = %q, %d; want %q", key, got, e, gap)
		}
	}
}

// ranges tells where Range isn't the entries of some letters, and the key of one more; "" says that there is none above.
func ranges(t testing.TB, p blink.Pages, root int, low, high, letters, above string) {
	t.Helper()
	end := walk.End
	if above != "" {
		end = k(above)
	}
	for range 2 {
		if list, got, e := walk.Range(p, root, low, high); text(list) != text(rows(letters)) || got != end || e != api.OK {
			t.Errorf("Range(%q, %q) = %+v, %q, %d; want %q, %q", low, high, list, got, e, letters, above)
		}
	}
}

// P11.1, P11.2: the bytes of End, and the chapter's example.
func TestExample(t *testing.T) {
	if walk.End != strings.Repeat("\xff", 9) {
		t.Errorf("End is %q", walk.End)
	}
	s := blink.NewShelf()
	for _, c := range []string{"4", "2", "6"} {
		list, _ := blink.Put(s, 1, row(c))
		s.Put(list...)
	}
	nexts(t, s, 1, k("3"), "4", "4")
	nexts(t, s, 1, k("4"), "4", "6")
	nexts(t, s, 1, k("6"), "6", "")
	ranges(t, s, 1, k("3"), k("5"), "4", "6")
}

// P11.1: Next, After and Gap: keys ahead of all, at an entry's key, between two, behind all, at the ends of leaves, through leaves to which no entry leads, and those without entries.
func TestNext(t *testing.T) {
	for _, c := range []struct{ key, next, after string }{
		{node.Low, "b", "b"}, {node.Low[1:] + "\x01", "b", "b"}, {k("a"), "b", "b"}, {"bbbbbbbba", "b", "b"}, {k("b"), "b", "c"}, {"bbbbbbbbc", "c", "c"},
		// c stands at the end of a leaf, d at the beginning of the next one.
		{k("c"), "c", "d"}, {"cccccccce", "d", "d"}, {"ddddddddc", "d", "d"}, {k("d"), "d", "f"}, {k("e"), "f", "f"}, {k("f"), "f", "G"},
		// No entry leads to the leaf from g on, whose first entry is a ghost.
		{"ffffffffg", "G", "G"}, {"ggggggggf", "G", "G"}, {k("g"), "G", "i"}, {k("h"), "i", "i"}, {k("i"), "i", "r"}, {k("j"), "r", "r"}, {k("l"), "r", "r"},
		// The leaf from m on has no entries, the one from p on begins with less than its first one.
		{k("m"), "r", "r"}, {k("n"), "r", "r"}, {k("o"), "r", "r"}, {k("p"), "r", "r"}, {k("q"), "r", "r"}, {k("r"), "r", "S"}, {"rrrrrrrrs", "S", "S"}, {k("s"), "S", ""}, {k("t"), "", ""},
		// The last leaf has none, and no entry leads to it.
		{k("u"), "", ""}, {k("v"), "", ""}, {k("z"), "", ""}, {walk.End[1:] + "\xfe", "", ""}, {walk.End, "", ""},
		// Keys that no entry has are sought too.
		{"d", "d", "d"}, {k("d") + "x", "f", "f"}, {"m", "r", "r"}, {k("s") + "\x00", "", ""}, {walk.End + walk.End, "", ""},
	} {
		nexts(t, three(), 1, c.key, c.next, c.after)
	}
}

// P11.1: of trees of one level and two, of one entry and of none.
func TestNextSmall(t *testing.T) {
	b := book{1: leaf("", 0, "bD")}
	for _, p := range []book{b, tree(1, stretch{letters: "bD"}), tree(1, stretch{letters: "b"}, stretch{begins: "c", letters: "D"}), tree(1, stretch{letters: "b"}, stretch{begins: "c", letters: "D", loose: true})} {
		for _, c := range []struct{ key, next, after string }{
			{node.Low, "b", "b"}, {k("a"), "b", "b"}, {k("b"), "b", "D"}, {k("c"), "D", "D"}, {k("d"), "D", ""}, {k("e"), "", ""}, {walk.End, "", ""},
		} {
			nexts(t, p, 1, c.key, c.next, c.after)
		}
	}
	// A tree of one leaf has no way on which a key could be too low.
	nexts(t, b, 1, "", "b", "b")
	nexts(t, b, 1, "\x00", "b", "b")
	for i, p := range []blink.Pages{blink.NewShelf(), tree(1, stretch{}), tree(1, stretch{}, stretch{begins: "c"}), tree(2, stretch{}, stretch{begins: "c"}, stretch{begins: "f", loose: true}, stretch{begins: "g"})} {
		for _, at := range []string{node.Low, k("b"), k("c"), k("f"), k("z"), walk.End} {
			nexts(t, p, 1, at, "", "")
			for _, high := range []string{node.Low, k("c"), walk.End} {
				ranges(t, p, 1, at, high, "", "")
			}
		}
		if i == 0 {
			nexts(t, p, 255, "", "", "")
			ranges(t, p, 255, "", "", "", "")
		}
	}
}

// P11.1, P11.2: entries whose keys are Low and End.
func TestTheEnds(t *testing.T) {
	low, end := api.Entry{Key: node.Low, Val: "low"}, api.Entry{Key: walk.End, Val: "end", Ghost: true}
	b := book{1: {List: []api.Entry{low, end}}}
	if x, ok, e := walk.Next(b, 1, node.Low); x != low || !ok || e != api.OK {
		t.Errorf("Next(Low) = %+v, %v, %d", x, ok, e)
	}
	for _, at := range []string{node.Low, k("a"), walk.End[1:] + "\xfe"} {
		if x, ok, e := walk.After(b, 1, at); x != end || !ok || e != api.OK {
			t.Errorf("After(%q) = %+v, %v, %d", at, x, ok, e)
		}
	}
	if x, ok, e := walk.Next(b, 1, walk.End); x != end || !ok || e != api.OK {
		t.Errorf("Next(End) = %+v, %v, %d", x, ok, e)
	}
	if x, ok, e := walk.After(b, 1, walk.End); ok || x != (api.Entry{}) || e != api.OK {
		t.Errorf("After(End) = %+v, %v, %d", x, ok, e)
	}
	if list, got, e := walk.Range(b, 1, node.Low, walk.End); text(list) != text([]api.Entry{low, end}) || got != walk.End || e != api.OK {
		t.Errorf("Range = %+v, %q, %d", list, got, e)
	}
	if list, got, e := walk.Range(b, 1, node.Low, node.Low); text(list) != text([]api.Entry{low}) || got != walk.End || e != api.OK {
		t.Errorf("Range = %+v, %q, %d", list, got, e)
	}
}

// P11.2: the entries from low to high, both of them too, and the key of the first one above; ghosts as others.
func TestRange(t *testing.T) {
	for _, c := range []struct{ low, high, letters, above string }{
		{node.Low, walk.End, "bcdfGirS", ""}, {k("b"), k("s"), "bcdfGirS", ""}, {k("b"), k("r"), "bcdfGir", "s"}, {k("c"), k("s"), "cdfGirS", ""}, {"bbbbbbbbc", "ssssssssr", "cdfGir", "s"},
		{node.Low, node.Low, "", "b"}, {node.Low, k("a"), "", "b"}, {k("a"), k("b"), "b", "c"}, {k("b"), k("c"), "bc", "d"}, {k("c"), k("d"), "cd", "f"}, {k("e"), k("h"), "fG", "i"}, {k("g"), k("g"), "G", "i"}, {k("h"), k("h"), "", "i"},
		{k("c"), k("c"), "c", "d"}, {k("d"), k("d"), "d", "f"}, {k("i"), k("i"), "i", "r"}, {k("i"), k("o"), "i", "r"}, {k("j"), k("q"), "", "r"}, {k("m"), k("m"), "", "r"}, {k("n"), k("r"), "r", "s"}, {k("s"), k("s"), "S", ""},
		{k("s"), walk.End, "S", ""}, {k("t"), walk.End, "", ""}, {k("v"), k("z"), "", ""}, {walk.End, walk.End, "", ""},
		// Of a low above high there are none, and the first one above high, which may stand ahead of low.
		{k("c"), k("b"), "", "c"}, {k("s"), k("b"), "", "c"}, {k("b"), node.Low, "", "b"}, {walk.End, node.Low, "", "b"}, {k("g"), k("f"), "", "g"}, {k("f"), k("e"), "", "f"}, {k("h"), k("g"), "", "i"}, {k("q"), k("j"), "", "r"}, {k("r"), k("m"), "", "r"},
		{walk.End, k("r"), "", "s"}, {walk.End, k("s"), "", ""}, {walk.End, k("z"), "", ""}, {k("z"), k("v"), "", ""},
		// Keys that no entry has.
		{"b", "d", "bc", "d"}, {k("b") + "x", k("d") + "x", "cd", "f"}, {"z", "a", "", "b"}, {k("d") + "x", k("d"), "", "f"},
	} {
		ranges(t, three(), 1, c.low, c.high, c.letters, c.above)
	}
	b := book{1: leaf("", 0, "bdf")}
	ranges(t, b, 1, "", "\xff\xff", "bdf", "")
	ranges(t, b, 1, k("c"), k("e"), "d", "f")
	ranges(t, b, 1, k("e"), k("c"), "", "d")
	ranges(t, b, 1, k("z"), "", "", "b")
}

// P11.1: from another node on than a root, what is sought is the way from there.
func TestFromBelow(t *testing.T) {
	b := three()
	for page := 10; page < 15; page++ {
		nexts(t, b, page, k("r"), "r", "S")
		ranges(t, b, page, k("r"), walk.End, "rS", "")
	}
	nexts(t, b, 12, k("a"), "G", "G")
	nexts(t, b, 12, "", "G", "G")
	ranges(t, b, 13, "", k("z"), "rS", "")
}

// all tells where a tree's calls aren't as its entries, which rise, say: each of some keys, each pair of some others.
func all(t testing.TB, p blink.Pages, root int, list []api.Entry, keys, pairs []string) {
	t.Helper()
	// behind is the first of some entries, and its key, or End.
	behind := func(list []api.Entry) (api.Entry, bool, string) {
		if len(list) == 0 {
			return api.Entry{}, false, walk.End
		}
		return list[0], true, list[0].Key
	}
	// from is how many entries are below a key, and how many aren't above it.
	from := func(key string) (int, int) {
		at, ok := slices.BinarySearchFunc(list, key, func(e api.Entry, key string) int { return strings.Compare(e.Key, key) })
		if ok {
			return at, at + 1
		}
		return at, at
	}
	for _, key := range keys {
		below, upTo := from(key)
		x, ok, _ := behind(list[below:])
		if got, is, e := walk.Next(p, root, key); got != x || is != ok || e != api.OK {
			t.Fatalf("Next(%q) = %+v, %v, %d; want %+v, %v", key, got, is, e, x, ok)
		}
		x, ok, gap := behind(list[upTo:])
		if got, is, e := walk.After(p, root, key); got != x || is != ok || e != api.OK {
			t.Fatalf("After(%q) = %+v, %v, %d; want %+v, %v", key, got, is, e, x, ok)
		}
		if got, e := walk.Gap(p, root, key); got != gap || e != api.OK {
			t.Fatalf("Gap(%q) = %q, %d; want %q", key, got, e, gap)
		}
	}
	for _, low := range pairs {
		below, _ := from(low)
		for _, high := range pairs {
			_, upTo := from(high)
			_, _, end := behind(list[upTo:])
			got, gap, e := walk.Range(p, root, low, high)
			if !slices.Equal(got, list[min(below, upTo):upTo]) || gap != end || e != api.OK {
				t.Fatalf("Range(%q, %q) = %+v, %q, %d; want %+v, %q", low, high, got, gap, e, list[min(below, upTo):upTo], end)
			}
		}
	}
	rises(t, p, root, list)
}

// rises tells where whoever goes from Low by After from entry to entry doesn't come to all of some, each once.
func rises(t testing.TB, p blink.Pages, root int, list []api.Entry) {
	t.Helper()
	at := node.Low
	for i := 0; ; i++ {
		x, ok, e := walk.After(p, root, at)
		if e != api.OK || ok != (i < len(list)) || ok && x != list[i] {
			t.Fatalf("the entry %d, behind %q, is %+v, %v, %d; there are %+v", i, at, x, ok, e, list)
		}
		if !ok {
			return
		}
		at = x.Key
	}
}

// letters is the keys of some letters, and Low and End.
func letters(s string) []string {
	list := []string{node.Low}
	for _, c := range s {
		list = append(list, k(string(c)))
	}
	return append(list, walk.End)
}

// P11.1, P11.2, P11.3: every tree of four leaves of up to two entries each, one of which stands where its leaf begins, with every choice of leaves to which no entry leads yet.
func TestEveryTree(t *testing.T) {
	keys, pairs := letters("abcdefghijklmnop"), letters("cdfgj")
	at := []string{"b", "D", "e", "g", "H", "k", "l", "N"}
	for which := range 1 << 8 {
		has := make([]string, 4)
		for i, c := range at {
			if which>>i&1 == 1 {
				has[i/2] += c
			}
		}
		for loose := range 1 << 3 {
			for level := 1; level < 4; level++ {
				b := tree(level, stretch{letters: has[0]},
					stretch{begins: "e", letters: has[1], loose: loose&1 == 1},
					stretch{begins: "h", letters: has[2], loose: loose&2 == 2},
					stretch{begins: "l", letters: has[3], loose: loose&4 == 4})
				all(t, b, 1, rows(strings.Join(has, "")), keys, pairs)
			}
		}
		if whole := strings.Join(has, ""); len(whole) > 0 {
			all(t, book{1: leaf("", 0, whole)}, 1, rows(whole), keys, pairs)
		}
	}
}

// P11.3: from Low by After to all entries, each once, rising; List answers the same.
func TestAfterFromLow(t *testing.T) {
	for s, b := range trees() {
		for page, n := range b {
			if !node.Fits(n) {
				t.Errorf("%q: the page %d can't be %+v", s, page, n)
			}
		}
		rises(t, b, 1, rows(s))
		if list, e := blink.List(b, 1); !slices.Equal(list, rows(s)) || e != api.OK {
			t.Errorf("List = %+v, %d; want %q", list, e, s)
		}
	}
}

// P11.1: trees that aren't sound, where the leaf isn't found: each call ends, and is refused as Seek is.
func TestUnsound(t *testing.T) {
	low := func(level, page int) api.Node {
		return api.Node{Level: level, List: []api.Entry{node.Lead(node.Low, page)}}
	}
	to := func(right int, n api.Node) api.Node {
		n.HasHigh, n.High, n.Right = true, k("b"), right
		return n
	}
	two := tree(1, stretch{letters: "b"}, stretch{begins: "f", letters: "fg"})
	for _, c := range []struct {
		what string
		b    book
		e    api.Errno
	}{
		{"the root can't be read", book{}, api.ErrDown},
		{"a node without entries", two.with(1, api.Node{Level: 1}), api.ErrForm},
		{"no entry ahead of it", two.with(1, api.Node{Level: 1, List: []api.Entry{node.Lead(k("f"), 11)}}), api.ErrForm},
		{"an entry leads to the node", two.with(1, low(1, 1)), api.ErrForm},
		{"an entry leads two levels below", two.with(1, low(2, 10)), api.ErrForm},
		{"an entry leads to a page that can't be read", two.with(1, low(1, 99)), api.ErrDown},
		{"an entry has three bytes", two.with(1, api.Node{Level: 1, List: []api.Entry{{Key: node.Low, Val: "\x0a\x00\x00"}}}), api.ErrForm},
		{"a Right leads to the leaf", two.with(10, to(10, api.Node{})), api.ErrForm},
		{"a Right leads to a page that can't be read", two.with(10, to(99, leaf("", 0, "a"))), api.ErrDown},
		{"a Right leads to a page that there isn't", two.with(10, to(-1, leaf("", 0, "a"))), api.ErrDown},
		{"Rights go round", two.with(10, to(11, api.Node{})).with(11, to(10, api.Node{})), api.ErrForm},
		{"Rights go round above", two.with(1, to(1, low(1, 10))), api.ErrForm},
		{"Rights lead up", two.with(10, to(1, api.Node{})), api.ErrForm},
		{"the root is below", two.with(1, api.Node{Level: -1}), api.ErrForm},
	} {
		refused(t, c.what, c.b, 1, k("c"), c.e)
	}
	// Of a tree of two levels there is no way to a key below Low.
	refused(t, "below Low", three(), 1, "", api.ErrForm)
	refused(t, "below Low", three(), 1, "\x00", api.ErrForm)
	for _, root := range []int{-1, 256, math.MinInt, math.MaxInt} {
		refused(t, "no such root", blink.NewShelf(), root, k("b"), api.ErrArg)
	}
}

// P11.1: without pages all calls are ErrNil.
func TestNil(t *testing.T) {
	var s *blink.Shelf
	var y *tray.Tray
	for _, p := range []blink.Pages{nil, s, y} {
		for _, root := range []int{0, 1, 255, -1, 256} {
			for _, at := range []string{"", node.Low, k("b"), walk.End} {
				refused(t, "nil", p, root, at, api.ErrNil)
			}
		}
	}
}

// P11.1: trees that aren't sound, where it goes on to no leaf behind the one that is sought: what is ahead is answered, all else is refused.
func TestUnsoundBehind(t *testing.T) {
	two := tree(1, stretch{letters: "bc"}, stretch{begins: "f", letters: ""}, stretch{begins: "m", letters: "n"})
	for _, c := range []struct {
		what string
		b    book
		e    api.Errno
	}{
		{"a Right leads to the leaf", two.with(11, leaf("m", 11, "")), api.ErrForm},
		{"a Right leads back", two.with(11, leaf("m", 10, "")), api.ErrForm},
		{"a Right leads to the root", two.with(11, leaf("m", 1, "")), api.ErrForm},
		{"a Right leads below", two.with(12, api.Node{Level: -1, List: rows("n")}), api.ErrForm},
		{"a Right leads above", two.with(12, api.Node{Level: 1, List: rows("n")}), api.ErrForm},
		{"a Right leads to a page that can't be read", two.with(11, leaf("m", 99, "")), api.ErrDown},
		{"a Right leads to a page that there isn't", two.with(11, leaf("m", -7, "")), api.ErrDown},
		{"the last leaf leads round", two.with(11, leaf("", 11, "")), api.ErrForm},
		{"the last leaf leads back", two.with(12, leaf("", 10, "")), api.ErrForm},
	} {
		nexts(t, c.b, 1, k("a"), "b", "b")
		nexts(t, c.b, 1, k("b"), "b", "c")
		ranges(t, c.b, 1, node.Low, k("b"), "b", "c")
		ranges(t, c.b, 1, walk.End, k("b"), "", "c")
		for _, ask := range []asker{
			one("Next", walk.Next, 1, k("d")),
			one("Next", walk.Next, 1, k("f")),
			one("After", walk.After, 1, k("c")),
			one("After", walk.After, 1, k("l")),
			askers(1, k("c"))[2],
			askers(1, k("g"))[2],
			between(1, k("b"), k("c")),
			between(1, k("b"), k("z")),
			between(1, k("f"), k("f")),
			between(1, node.Low, walk.End),
			between(1, walk.End, k("c")),
		} {
			if a := ask(c.b); a.e != c.e || !a.zero {
				t.Errorf("%s: %s: %d, %s; want %d, nothing", c.what, a.name, a.e, a.all, c.e)
			}
		}
	}
}

// rights is a root that leads to the first of so many leaves without entries, the pages from 1 on, each of which leads to the next one; the last one has an entry. It counts how often it is asked.
func rights(count int, asked *int) maker {
	return func(page int) (api.Node, api.Errno) {
		*asked++
		switch page {
		case 0:
			return api.Node{Level: 1, List: []api.Entry{node.Lead(node.Low, 1)}}, api.OK
		case count:
			return api.Node{List: rows("z")}, api.OK
		}
		return api.Node{HasHigh: true, High: key(page), Right: page + 1}, api.OK
	}
}

// P11.1: what takes as many nodes as there are pages comes to its end, to whatever leaf it goes; what takes more ends, and is ErrForm.
func TestMaxPages(t *testing.T) {
	for _, root := range []int{0, 1} {
		most := api.MaxPages
		if root == 0 {
			most--
		}
		for _, count := range []int{2, 100, most, most + 1, most + 100, -1} {
			asked := 0
			p := rights(count, &asked)
			if count > most || count < 0 {
				for _, ask := range []asker{one("Next", walk.Next, root, node.Low), one("After", walk.After, root, node.Low), askers(root, node.Low)[2], between(root, node.Low, walk.End), between(root, walk.End, node.Low)} {
					asked = 0
					if a := ask(p); a.e != api.ErrForm || !a.zero || asked > 2*api.MaxPages {
						t.Errorf("%s over %d from %d: %d, %s, having asked %d times", a.name, count, root, a.e, a.all, asked)
					}
				}
				continue
			}
			nexts(t, p, root, node.Low, "z", "z")
			nexts(t, p, root, key(count/2), "z", "z")
			nexts(t, p, root, walk.End, "", "")
			ranges(t, p, root, node.Low, walk.End, "z", "")
			ranges(t, p, root, walk.End, node.Low, "", "z")
		}
	}
}

// P11.1: a tree that has all pages of a shelf, the page 0 too.
func TestAllPages(t *testing.T) {
	s := blink.NewShelf()
	var list []api.Entry
	for page := range api.MaxPages {
		x := api.Entry{Key: key(page), Val: "v"}
		n := api.Node{HasHigh: true, High: key(page + 1), Right: page + 1, List: []api.Entry{x}}
		switch page {
		case 0:
			n = api.Node{Level: 1, List: []api.Entry{node.Lead(node.Low, 1)}}
		case api.MaxPages - 1:
			n.HasHigh, n.High, n.Right = false, "", 0
		}
		s.Put(api.Change{Page: page, Node: n})
		if page > 0 {
			list = append(list, x)
		}
	}
	keys := []string{node.Low, key(1), key(2), key(3) + "x", key(254), key(255), walk.End}
	all(t, s, 0, list, keys, keys)
}

// faulty is pages of which so many nodes are answered, then errors.
type faulty struct {
	blink.Pages
	left int
	e    api.Errno
	came bool
}

func (f *faulty) Node(page int) (api.Node, api.Errno) {
	if f.left == 0 {
		f.came = true
		return api.Node{List: rows("abc")}, f.e
	}
	f.left--
	return f.Pages.Node(page)
}

// P11.1: an error in the midst of a call is its answer, and nothing beside it, wherever it comes; nothing is changed.
func TestErrorsInTheMidst(t *testing.T) {
	for s, b := range trees() {
		was := deep(b)
		for _, at := range letters("abcdefgmprsz") {
			for _, ask := range askers(1, at) {
				whole := ask(b)
				for _, e := range []api.Errno{api.ErrDown, api.ErrArg, api.ErrForm, api.ErrNil} {
					left := 0
					for f := (&faulty{b, left, e, false}); ; f = (&faulty{b, left, e, false}) {
						a := ask(f)
						if !f.came {
							if a != whole || whole.e != api.OK || left == 0 {
								t.Errorf("%q: %s without a fault, behind %d nodes: %+v; want %+v", s, a.name, left, a, whole)
							}
							break
						}
						if a.e != e || !a.zero {
							t.Errorf("%q: %s with a fault behind %d nodes: %+v; want %d, nothing", s, a.name, left, a, e)
						}
						left++
					}
				}
			}
		}
		if deep(b) != was {
			t.Errorf("the tree of %q was changed", s)
		}
	}
}

// Rule 3: an answer that is changed by the caller changes nothing; the nodes that pages answer aren't changed, the spare room of their lists neither.
func TestNewMemory(t *testing.T) {
	for s, b := range trees() {
		for page, n := range b {
			list := append(slices.Clone(n.List), row("y"), row("Y"), row("y"))
			n.List = list[:len(n.List)]
			b[page] = n
		}
		was := deep(b)
		for _, low := range letters("bcdfgp") {
			for _, high := range letters("bcdfgp") {
				list, end, _ := walk.Range(b, 1, low, high)
				again, other, _ := walk.Range(b, 1, low, high)
				whole := text(again)
				for i := range list {
					list[i] = api.Entry{Key: "other", Val: "other"}
				}
				clear(list[:cap(list)])
				if text(again) != whole || end != other {
					t.Fatalf("%q: two answers of Range share a list", s)
				}
				if got, end, _ := walk.Range(b, 1, low, high); text(got) != whole || end != other {
					t.Fatalf("%q: Range(%q, %q) = %+v; then %s", s, low, high, got, whole)
				}
			}
			for _, ask := range askers(1, low) {
				ask(b)
			}
		}
		if deep(b) != was {
			t.Errorf("the tree of %q was changed", s)
		}
	}
}

// P1: nothing panics, whatever the nodes hold, and whatever is asked for; where Seek is refused all calls are.
func TestRawNodes(t *testing.T) {
	numbers := []int{math.MinInt, -1, 0, 1, 2, 255, 256, math.MaxInt}
	keys := []string{"", node.Low, k("b"), "raw", walk.End, walk.End + "x"}
	lists := [][]api.Entry{nil, {{}}, rows("ba"), rows("bb"), {node.Lead("", 1)}, {node.Lead("", 2), node.Lead(k("b"), 3), node.Lead("", 4)}, make([]api.Entry, 300)}
	for _, level := range numbers {
		for i, list := range lists {
			for _, right := range numbers {
				n := api.Node{Tree: right, Level: level, Stamp: level, HasHigh: i%2 == 0, High: keys[i%len(keys)], Right: right, List: list}
				below := n
				below.Level--
				b := book{0: below, 1: n, 2: below, 3: n}
				for _, at := range keys {
					asSeek(t, b, at)
				}
			}
		}
	}
}

// asSeek tells where the calls of a key aren't refused, as Seek is, or answer something beside an error; all of the root 1.
func asSeek(t testing.TB, p blink.Pages, at string) {
	t.Helper()
	if _, e := blink.Seek(p, 1, 0, at); e != api.OK {
		refused(t, "raw", p, 1, at, e)
		return
	}
	for _, ask := range askers(1, at) {
		if a := ask(p); a.e != api.OK && !a.zero {
			t.Errorf("%s of %q: %+v", a.name, at, a)
		}
	}
}

// grower is a tree of the root 1 that grows, and its entries; some of its pages are free, and some posts are left to do.
type grower struct {
	testing.TB
	pages blink.Pages
	write func(list ...api.Change)
	has   map[string]api.Entry
	posts []api.Post
	free  []int
}

// begin is an empty tree.
func begin(t testing.TB, p blink.Pages, write func(list ...api.Change)) *grower {
	g := &grower{TB: t, pages: p, write: write, has: map[string]api.Entry{}}
	for page := 2; page < api.MaxPages; page++ {
		g.free = append(g.free, page)
	}
	return g
}

// took writes what a call answered, and fails, if that was refused.
func (g *grower) took(list []api.Change, e api.Errno) {
	g.Helper()
	if e != api.OK {
		g.Fatalf("a change is refused: %d", e)
	}
	g.write(list...)
}

// split parts the node of a level that covers a key; false, if there is no room for it.
func (g *grower) split(level int, key string) bool {
	g.Helper()
	if len(g.free) < 2 {
		return false
	}
	list, post, e := blink.Split(g.pages, 1, level, key, [2]int(g.free))
	g.took(list, e)
	if g.free = g.free[1:]; post == (api.Post{}) {
		g.free = g.free[1:]
	} else {
		g.posts = append(g.posts, post)
	}
	return true
}

// put puts an entry, if there is room for it.
func (g *grower) put(x api.Entry) {
	g.Helper()
	list, e := blink.Put(g.pages, 1, x)
	for e == api.ErrSplit {
		if !g.split(0, x.Key) {
			return
		}
		list, e = blink.Put(g.pages, 1, x)
	}
	g.took(list, e)
	g.has[x.Key] = x
}

// drop takes an entry out, if it is there.
func (g *grower) drop(key string) {
	g.Helper()
	if _, ok := g.has[key]; ok {
		list, e := blink.Drop(g.pages, 1, key)
		g.took(list, e)
		delete(g.has, key)
	}
}

// hang does one thing that is left to do, if there is room for it.
func (g *grower) hang(at int) {
	g.Helper()
	if len(g.posts) == 0 {
		return
	}
	at %= len(g.posts)
	x := g.posts[at]
	list, e := blink.Hang(g.pages, 1, x)
	for e == api.ErrSplit {
		if !g.split(x.Level, x.Key) {
			return
		}
		list, e = blink.Hang(g.pages, 1, x)
	}
	g.took(list, e)
	g.posts = slices.Delete(g.posts, at, at+1)
}

// shrink takes a leaf out, if it may go.
func (g *grower) shrink(key string) {
	g.Helper()
	list, page, e := blink.Shrink(g.pages, 1, key)
	if e != api.ErrState {
		g.took(list, e)
		g.free = append(g.free, page)
	}
}

// look tells where the calls of some keys, and of some pairs, aren't as the entries say.
func (g *grower) look(keys, pairs []string) {
	g.Helper()
	var list []api.Entry
	for _, key := range slices.Sorted(maps.Keys(g.has)) {
		list = append(list, g.has[key])
	}
	all(g, g.pages, 1, list, append(keys, node.Low, walk.End), append(pairs, node.Low, walk.End))
}

// play plays a script of bytes, two a step, and looks each so often.
func (g *grower) play(script []byte, often int) {
	g.Helper()
	for i := 0; i+1 < len(script); i += 2 {
		what, at := int(script[i]), key(int(script[i+1]))
		switch what % 8 {
		case 0, 1, 2, 3:
			g.put(api.Entry{Key: at, Val: strings.Repeat("v", what%100), Ghost: what%3 == 0})
		case 4, 5:
			g.drop(at)
		case 6:
			g.hang(what)
		case 7:
			g.shrink(at)
		}
		if i/2%often == 0 {
			g.look([]string{at, at + "x"}, []string{at, key(what)})
		}
	}
	var keys, pairs []string
	for n := range 258 {
		keys = append(keys, key(n-1))
		if n%11 == 0 {
			pairs = append(pairs, key(n))
		}
	}
	g.look(keys, pairs)
}

// mixed is n bytes among which there is no plain rule; others for another seed.
func mixed(seed, n int) []byte {
	b := make([]byte, n)
	x := uint32(seed + 1)
	for i := range b {
		x = x*1664525 + 1013904223
		b[i] = byte(x >> 24)
	}
	return b
}

// P11.1, P11.2, P11.3: trees that grow and shrink, on a shelf, what is left to do done late, or never.
func TestLongRows(t *testing.T) {
	for seed := range 8 {
		script := mixed(seed, 3000)
		for i := 0; i+1 < len(script); i += 2 {
			switch {
			// Of some rows nothing is hung, of some much is dropped at last.
			case seed%4 == 1 && script[i]%8 == 6:
				script[i] -= 2
			case seed%4 == 2 && i > 2000 && script[i]%8 < 3:
				script[i] += 4
			}
		}
		s := blink.NewShelf()
		begin(t, s, s.Put).play(script, 7)
	}
}

// P11.1, P11.2, P11.3: the same over a tray, which writes pages, and reads them again; without power all calls are ErrDown.
func TestOverTray(t *testing.T) {
	m := mains.New()
	l, _, e := diary.Open(reel.New(m, 100))
	if e != api.OK {
		t.Fatal(e)
	}
	d := slab.New(m, api.MaxPages)
	y := tray.New(d, l)
	stamp := 0
	g := begin(t, y, func(list ...api.Change) {
		stamp++
		if e := y.Put(stamp, list...); e != api.OK {
			t.Fatalf("Put of %+v: %d", list, e)
		}
		y.Evict(stamp * 7 % api.MaxPages)
	})
	g.play(mixed(55, 1500), 20)
	m.Off()
	for _, at := range []string{"", node.Low, key(100), walk.End} {
		refused(t, "without power", tray.New(d, l), 1, at, api.ErrDown)
	}
}

// P11.1, P11.2, P11.3: whatever the script.
func FuzzPlay(f *testing.F) {
	for seed := range 8 {
		f.Add(mixed(seed, 200))
	}
	f.Add([]byte{})
	f.Fuzz(func(t *testing.T, script []byte) {
		s := blink.NewShelf()
		begin(t, s, s.Put).play(script[:min(len(script), 2000)], 5)
	})
}

// P1, P11.1: whatever nodes there are, each call ends, is refused as Seek is, and answers nothing beside an error.
func FuzzRaw(f *testing.F) {
	f.Add(1, 0, true, "bbbbbbbbb", 2, node.Low, "\x02\x00", "aaaaaaaaa")
	f.Add(0, 0, true, "b", 1, "b", "v", "c")
	f.Add(0, 0, false, "", 3, "b", "v", walk.End)
	f.Fuzz(func(t *testing.T, a, b int, has bool, high string, right int, at, val, key string) {
		n := api.Node{Level: a, HasHigh: has, High: high, Right: right, List: []api.Entry{{Key: at, Val: val}, {Key: at + "x", Val: val}}}
		m := n
		m.Level = b
		s := blink.NewShelf()
		s.Put(api.Change{Page: 1, Node: n}, api.Change{Page: 2, Node: m}, api.Change{Page: 3, Node: n})
		asSeek(t, s, key)
	})
}
