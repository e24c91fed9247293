package node_test

import (
	"bytes"
	"encoding/binary"
	"fmt"
	"hash/crc32"
	"math"
	"reflect"
	"slices"
	"strings"
	"testing"

	"gauger/api"
	"gauger/node"
)

// The greatest key, and the greatest stamp.
const (
	top      = "\xff\xff\xff\xff\xff\xff\xff\xff\xff"
	greatest = 1<<31 - 1
)

// mixed is n bytes among which there is no plain rule; others for another seed.
func mixed(seed, n int) string {
	b := make([]byte, n)
	x := uint32(seed + 1)
	for i := range b {
		x = x*1664525 + 1013904223
		b[i] = byte(x >> 24)
	}
	return string(b)
}

// key is a key of nine bytes; those of greater numbers are above.
func key(n int) string { return fmt.Sprintf("key%06d", n) }

// leaves is so many entries with Vals of so many bytes, each third one a ghost.
func leaves(count, size int) []api.Entry {
	var list []api.Entry
	for i := range count {
		list = append(list, api.Entry{Key: key(i * 10), Val: mixed(i, size), Ghost: i%3 == 2})
	}
	return list
}

// leads is so many entries that lead to pages.
func leads(count int) []api.Entry {
	var list []api.Entry
	for i := range count {
		list = append(list, api.Entry{Key: key(i * 10), Val: mixed(i, 2)})
	}
	return list
}

// leaf is a leaf with all its fields.
func leaf() api.Node {
	return api.Node{Tree: 0xf1, Stamp: 0x12345678, HasHigh: true, High: key(1000), Right: 0xf2, List: leaves(4, 20)}
}

// inner is a node above the leaves, with all its fields.
func inner() api.Node {
	return api.Node{Tree: 7, Level: 3, Stamp: 0x01020304, HasHigh: true, High: top, Right: 255, List: leads(17)}
}

// samples is nodes that fit, of many kinds.
func samples() []api.Node {
	list := []api.Node{
		{},
		leaf(),
		inner(),
		{Tree: 255, Level: 12, Stamp: greatest, HasHigh: true, High: top, Right: 255, List: leads(1)},
		{HasHigh: true, High: node.Low},
		{List: []api.Entry{{Key: node.Low}, {Key: top, Ghost: true}}},
		{HasHigh: true, High: "\x00\x00\x00\x00\x00\x00\x00\x00\x01", List: []api.Entry{{Key: node.Low, Val: strings.Repeat("\xff", 100)}}},
		{List: []api.Entry{{Key: key(1), Val: strings.Repeat("\x00", 100)}, {Key: key(2), Val: strings.Repeat("\x01", 100)}}},
		{Level: 1, List: leads(17)},
	}
	for n := range 22 {
		list = append(list, api.Node{Tree: n, List: leaves(n, 0)})
	}
	for n := range 101 {
		list = append(list, api.Node{Stamp: n << 16, Right: n, HasHigh: n%2 == 0, High: strings.Repeat(top, 1-n%2), List: leaves(2, n)})
	}
	return list
}

// few is some of the samples, where each is looked at byte by byte.
func few() []api.Node { return samples()[:9] }

// ahead is what stands ahead of the bytes 0, as the chapter tells it, whether the node can be or not: of each number the lowest bytes.
func ahead(n api.Node) []byte {
	var b bytes.Buffer
	put := func(n any) {
		if e := binary.Write(&b, binary.LittleEndian, n); e != nil {
			panic(e)
		}
	}
	put([]byte{byte(n.Tree), byte(n.Level)})
	put(uint32(n.Stamp))
	put(n.HasHigh)
	b.WriteString(n.High)
	b.Write(make([]byte, max(9-len(n.High), 0)))
	put([]uint16{uint16(n.Right), uint16(len(n.List))})
	for _, e := range n.List {
		b.WriteString(e.Key)
		put(e.Ghost)
		put(byte(len(e.Val)))
		b.WriteString(e.Val)
	}
	return b.Bytes()
}

// sealed is bytes, and the tail of their sum.
func sealed(b []byte) string {
	return string(binary.LittleEndian.AppendUint32(slices.Clone(b), crc32.ChecksumIEEE(b)))
}

// filled is bytes, bytes 0 up to 252, and the tail of the sum of all that.
func filled(b []byte) string {
	return sealed(append(slices.Clone(b), make([]byte, max(252-len(b), 0))...))
}

// same tells whether two nodes are the same, lists of nothing alike.
func same(a, b api.Node) bool {
	return fmt.Sprintf("%+v", a) == fmt.Sprintf("%+v", b)
}

// written is a node's page.
func written(t testing.TB, n api.Node) string {
	t.Helper()
	s, e := node.Bytes(n)
	if e != api.OK || len(s) != 256 {
		t.Fatalf("Bytes(%+v) has %d bytes, %d", n, len(s), e)
	}
	return s
}

// none tells where bytes are read as a node.
func none(t testing.TB, what string, s string) {
	t.Helper()
	n, e := node.Read(s)
	if e != api.ErrForm || !reflect.DeepEqual(n, api.Node{}) {
		t.Fatalf("%s: Read = %+v, %d; want none, ErrForm", what, n, e)
	}
}

// reads tells where a page isn't read as a node.
func reads(t testing.TB, what string, s string, n api.Node) {
	t.Helper()
	got, e := node.Read(s)
	if e != api.OK || !same(got, n) {
		t.Fatalf("%s: Read = %+v, %d; want %+v, OK", what, got, e, n)
	}
}

// alike tells where bytes are read as a node whose page they aren't.
func alike(t testing.TB, what string, s string) {
	t.Helper()
	n, e := node.Read(s)
	if e != api.OK {
		none(t, what, s)
		return
	}
	if !canBe(n) || !node.Fits(n) || written(t, n) != s || filled(ahead(n)) != s {
		t.Fatalf("%s: %q is read as %+v, whose page is %q", what, s, n, written(t, n))
	}
}

// size is how many bytes stand ahead of the bytes 0.
func size(n api.Node) int {
	size := 20
	for _, e := range n.List {
		size += 11 + len(e.Val)
	}
	return size
}

// fits tells where a node that fits isn't taken as one.
func fits(t testing.TB, what string, n api.Node) {
	t.Helper()
	s, e := node.Bytes(n)
	expected := filled(ahead(n))
	if !node.Good(n) || !node.Fits(n) || node.Size(n) != size(n) || e != api.OK || s != expected {
		t.Fatalf("%s: Good = %v, Fits = %v, Size = %d, Bytes = %q, %d; want %q", what, node.Good(n), node.Fits(n), node.Size(n), s, e, expected)
	}
	reads(t, what, s, n)
}

// over tells where a node that can be, and doesn't fit, isn't taken as one.
func over(t testing.TB, what string, n api.Node) {
	t.Helper()
	s, e := node.Bytes(n)
	if !node.Good(n) || node.Fits(n) || node.Size(n) != size(n) || e != api.ErrFull || s != "" {
		t.Fatalf("%s: Good = %v, Fits = %v, Size = %d, Bytes = %q, %d; want true, false, %d, none, ErrFull", what, node.Good(n), node.Fits(n), node.Size(n), s, e, size(n))
	}
}

// can tells where a node that can be isn't taken as one.
func can(t testing.TB, what string, n api.Node) {
	t.Helper()
	if size(n) <= 252 {
		fits(t, what, n)
	} else {
		over(t, what, n)
	}
}

// cannot tells where a node that can't be is taken as one that can.
func cannot(t testing.TB, what string, n api.Node) {
	t.Helper()
	s, e := node.Bytes(n)
	if node.Good(n) || node.Fits(n) || node.Size(n) != size(n) || e != api.ErrArg || s != "" {
		t.Fatalf("%s: Good = %v, Fits = %v, Size = %d, Bytes = %q, %d; want false, false, %d, none, ErrArg", what, node.Good(n), node.Fits(n), node.Size(n), s, e, size(n))
	}
}

// canBe tells whether a node can be, as the chapter tells it, one thing after the other.
func canBe(n api.Node) bool {
	var faults []bool
	for _, c := range [][2]int{{n.Tree, 255}, {n.Level, 12}, {n.Stamp, greatest}, {n.Right, 255}, {len(n.List), 100}} {
		faults = append(faults, c[0] < 0, c[0] > c[1])
	}
	faults = append(faults, n.HasHigh && len(n.High) != 9, !n.HasHigh && len(n.High) != 0)
	keys := []string{}
	for _, e := range n.List {
		keys = append(keys, e.Key)
		faults = append(faults, len(e.Key) != 9, len(e.Val) > 100, n.HasHigh && e.Key >= n.High)
		if n.Level > 0 {
			faults = append(faults, len(e.Val) != 2, e.Ghost)
		}
	}
	faults = append(faults, !slices.IsSorted(keys), len(slices.Compact(keys)) != len(n.List))
	return !slices.Contains(faults, true)
}

// asked tells where a node isn't taken as what it is.
func asked(t testing.TB, what string, n api.Node) {
	t.Helper()
	if canBe(n) {
		can(t, what, n)
	} else {
		cannot(t, what, n)
	}
}

// P8.1: the chapter's example.
func TestExample(t *testing.T) {
	fits(t, "the node without anything", api.Node{})
	s := written(t, api.Node{})
	zeros := make([]byte, 252)
	if s != string(zeros)+string(binary.LittleEndian.AppendUint32(nil, crc32.ChecksumIEEE(zeros))) || node.Size(api.Node{}) != 20 {
		t.Errorf("Bytes = %q, Size = %d", s, node.Size(api.Node{}))
	}
	if node.Low != strings.Repeat("\x00", 9) {
		t.Errorf("Low = %q", node.Low)
	}
}

// P8.1: pages that are written out.
func TestBytesByHand(t *testing.T) {
	for _, c := range []struct {
		n api.Node
		s string
	}{
		{
			api.Node{Tree: 0xf1, Stamp: 0x01020304, HasHigh: true, High: "highhigh!", Right: 0xf2, List: []api.Entry{{Key: "aaaaaaaaa", Val: "xyz"}, {Key: "bbbbbbbbb", Ghost: true}, {Key: "ccccccccc", Val: "1", Ghost: true}}},
			"\xf1\x00\x04\x03\x02\x01\x01highhigh!\xf2\x00\x03\x00aaaaaaaaa\x00\x03xyzbbbbbbbbb\x01\x00ccccccccc\x01\x011",
		},
		{
			api.Node{Tree: 1, Level: 12, Stamp: 0x7f000000, Right: 5, List: []api.Entry{{Key: node.Low, Val: "\x03\x00"}, {Key: top, Val: "\xff\x01"}}},
			"\x01\x0c\x00\x00\x00\x7f\x00\x00\x00\x00\x00\x00\x00\x00\x00\x00\x05\x00\x02\x00" + node.Low + "\x00\x02\x03\x00" + top + "\x00\x02\xff\x01",
		},
	} {
		fits(t, "by hand", c.n)
		if s := written(t, c.n); s != filled([]byte(c.s)) || node.Size(c.n) != len(c.s) {
			t.Errorf("Bytes = %q, Size = %d", s, node.Size(c.n))
		}
	}
}

// P8.1, P8.3: pages told in another way, of nodes of many kinds; what was written is read as it was.
func TestBytes(t *testing.T) {
	for i, n := range samples() {
		can(t, fmt.Sprint("sample ", i), n)
	}
}

// numbers are those about the ends of what may be, and at the ends of the types.
func numbers() []int {
	list := []int{math.MinInt, math.MinInt + 1, math.MinInt32, math.MaxInt - 1, math.MaxInt}
	for _, about := range []int{-1 << 32, -1 << 31, -256, 0, 6, 12, 128, 256, 1 << 15, 1 << 16, 1 << 24, 1 << 31, 1 << 32, 1 << 33} {
		for n := about - 3; n <= about+3; n++ {
			list = append(list, n)
		}
	}
	return list
}

// P8.1, Rule 6: each field that is a number, from its least to its greatest and beyond, at the ends of its type too.
func TestNumbers(t *testing.T) {
	for _, c := range []struct {
		name string
		high int
		set  func(n *api.Node, to int)
	}{
		{"Tree", 255, func(n *api.Node, to int) { n.Tree = to }},
		{"Level", 12, func(n *api.Node, to int) { n.Level = to }},
		{"Stamp", greatest, func(n *api.Node, to int) { n.Stamp = to }},
		{"Right", 255, func(n *api.Node, to int) { n.Right = to }},
	} {
		for _, to := range numbers() {
			for _, n := range []api.Node{{}, inner(), {HasHigh: true, High: top}} {
				c.set(&n, to)
				what := fmt.Sprint(c.name, " ", to)
				if to >= 0 && to <= c.high {
					fits(t, what, n)
				} else {
					cannot(t, what, n)
				}
			}
		}
	}
}

// P8.1: High has nine bytes, of a node that has one, else none.
func TestHigh(t *testing.T) {
	for size := range 20 {
		for _, high := range []string{strings.Repeat("\xff", size), strings.Repeat("\x00", size), mixed(size, size)} {
			what := fmt.Sprint("High of ", size)
			if n := (api.Node{HasHigh: true, High: high}); size == 9 {
				fits(t, what, n)
			} else {
				cannot(t, what, n)
			}
			if n := (api.Node{High: high}); size == 0 {
				fits(t, what+", without HasHigh", n)
			} else {
				cannot(t, what+", without HasHigh", n)
			}
		}
	}
	cannot(t, "High of 265", api.Node{HasHigh: true, High: strings.Repeat("h", 265)})
	cannot(t, "a High that isn't told, with entries below it", api.Node{High: top, List: leaves(2, 3)})
}

// P8.1: at most 100 entries, of which no more than 21 fit.
func TestEntries(t *testing.T) {
	for _, count := range []int{0, 1, 2, 20, 21} {
		fits(t, fmt.Sprint(count, " entries"), api.Node{List: leaves(count, 0)})
	}
	for _, count := range []int{22, 23, 50, 99, 100} {
		over(t, fmt.Sprint(count, " entries"), api.Node{List: leaves(count, 0)})
		over(t, fmt.Sprint(count, " entries above the leaves"), api.Node{Level: 1, List: leads(count)})
	}
	for _, count := range []int{101, 102, 255, 256, 257, 356, 1<<16 - 1, 1 << 16, 1<<16 + 1} {
		cannot(t, fmt.Sprint(count, " entries"), api.Node{List: leaves(count, 0)})
	}
}

// P8.1: Keys have nine bytes.
func TestKeySizes(t *testing.T) {
	for size := range 20 {
		for at := range 3 {
			n := api.Node{List: []api.Entry{{Key: "aaaaaaaaa"}, {Key: "bbbbbbbbb"}, {Key: "ccccccccc"}}}
			n.List[at].Key = strings.Repeat(n.List[at].Key[:1], size)
			what := fmt.Sprint("a Key of ", size, " at ", at)
			if size == 9 {
				fits(t, what, n)
			} else {
				cannot(t, what, n)
			}
		}
	}
	// Of bytes that are all right in all, each Key has to have its own.
	cannot(t, "a byte too few and a byte too many", api.Node{List: []api.Entry{{Key: "aaaaaaaa"}, {Key: "bbbbbbbbbb"}}})
	cannot(t, "a Key of 265", api.Node{List: []api.Entry{{Key: strings.Repeat("a", 265)}}})
}

// P8.1: Keys rise, byte by byte, wherever they stand, and are below High.
func TestKeysRise(t *testing.T) {
	for _, c := range []struct {
		what string
		keys []string
		is   bool
	}{
		{"rising", []string{"aaaaaaaaa", "aaaaaaaab", "aaaaaaaba", "b\x00\x00\x00\x00\x00\x00\x00\x00"}, true},
		{"bytes above 127", []string{"aaaaaaaaa", "\x7fzzzzzzzz", "\x80aaaaaaaa", "\xffaaaaaaaa"}, true},
		{"bytes above 127 that fall", []string{"\x80aaaaaaaa", "\x7fzzzzzzzz"}, false},
		{"like ones", []string{"aaaaaaaaa", "aaaaaaaaa"}, false},
		{"like ones at the end", []string{"aaaaaaaaa", "bbbbbbbbb", "bbbbbbbbb"}, false},
		{"falling", []string{"bbbbbbbbb", "aaaaaaaaa"}, false},
		{"falling at the end", []string{"aaaaaaaaa", "ccccccccc", "bbbbbbbbb"}, false},
		{"falling in the middle", []string{"aaaaaaaaa", "ccccccccc", "bbbbbbbbb", "ddddddddd"}, false},
		{"like ones that don't stand together", []string{"aaaaaaaaa", "bbbbbbbbb", "aaaaaaaaa"}, false},
		{"Low and Low", []string{node.Low, node.Low}, false},
		{"the ends", []string{node.Low, top}, true},
		{"falling by the last byte", []string{"aaaaaaaab", "aaaaaaaaa"}, false},
	} {
		for _, level := range []int{0, 1, 12} {
			n := api.Node{Level: level}
			for _, k := range c.keys {
				n.List = append(n.List, api.Entry{Key: k, Val: "xx"})
			}
			if canBe(n) != c.is {
				t.Fatal(c.what)
			}
			asked(t, fmt.Sprint(c.what, " at level ", level), n)
		}
	}
	for at := range 3 {
		for _, high := range []string{node.Low, "aaaaaaaaa", "aaaaaaaab", "bbbbbbbbb", "bbbbbbbbc", "ccccccccb", "ccccccccc", "ccccccccd", top} {
			n := api.Node{HasHigh: true, High: high, List: []api.Entry{{Key: "aaaaaaaaa"}, {Key: "bbbbbbbbb"}, {Key: "ccccccccc"}}[:at+1]}
			what := fmt.Sprintf("%d entries, High %q", at+1, high)
			if n.List[at].Key < high {
				fits(t, what, n)
			} else {
				cannot(t, what, n)
			}
		}
	}
	cannot(t, "only the first one above High", api.Node{HasHigh: true, High: "ccccccccc", List: []api.Entry{{Key: "ddddddddd"}, {Key: "bbbbbbbbb"}}})
}

// P8.1: Vals have at most 100 bytes, of any kind, those of ghosts too.
func TestVals(t *testing.T) {
	for _, size := range []int{0, 1, 2, 3, 50, 98, 99, 100, 101, 102, 200, 255, 256, 257, 258, 356, 512, 1 << 16, 1<<16 + 2} {
		for _, val := range []string{mixed(size, size), strings.Repeat("\x00", size), strings.Repeat("\xff", size)} {
			for _, ghost := range []bool{false, true} {
				for at := range 2 {
					n := api.Node{List: []api.Entry{{Key: key(0)}, {Key: key(1)}}}
					n.List[at].Val, n.List[at].Ghost = val, ghost
					what := fmt.Sprint("a Val of ", size, " at ", at)
					if size <= 100 {
						fits(t, what, n)
					} else {
						cannot(t, what, n)
					}
				}
			}
		}
	}
	over(t, "three of 100", api.Node{List: leaves(3, 100)})
	over(t, "100 of 100", api.Node{List: leaves(100, 100)})
}

// P8.1: above the leaves each Val has two bytes, and no entry is a ghost.
func TestAbove(t *testing.T) {
	for level := range 13 {
		for _, size := range []int{0, 1, 2, 3, 4, 100, 101, 258} {
			for at := range 3 {
				n := api.Node{Level: level, List: leads(3)}
				n.List[at].Val = mixed(at, size)
				what := fmt.Sprint("level ", level, ", a Val of ", size, " at ", at)
				if size == 2 || level == 0 && size <= 100 {
					fits(t, what, n)
				} else {
					cannot(t, what, n)
				}
				n.List[at].Ghost = true
				if level == 0 && size <= 100 {
					fits(t, what+", a ghost", n)
				} else {
					cannot(t, what+", a ghost", n)
				}
			}
		}
	}
}

// P8.1: a node that takes just 252 bytes fits; one byte more doesn't, however the bytes are shared out.
func TestFits(t *testing.T) {
	for count := 3; count <= 21; count++ {
		n := api.Node{HasHigh: true, High: top, Right: 1, List: leaves(count, 0)}
		for at := 0; size(n) < 252; at = (at + 1) % count {
			fits(t, fmt.Sprint("with ", size(n), " bytes"), n)
			n.List[at].Val += "v"
		}
		fits(t, fmt.Sprint(count, " entries in 252 bytes"), n)
		for at := range count {
			m := n
			m.List = slices.Clone(n.List)
			m.List[at].Val += "v"
			over(t, fmt.Sprint(count, " entries in 253 bytes"), m)
		}
	}
	fits(t, "17 that lead", api.Node{Level: 1, List: leads(17)})
	over(t, "18 that lead", api.Node{Level: 1, List: leads(18)})
	// What can't be is ErrArg, whether it fits or not.
	cannot(t, "neither can be nor fits", api.Node{Tree: 256, List: leaves(100, 100)})
	cannot(t, "neither rises nor fits", api.Node{List: append(leaves(50, 3), leaves(50, 3)...)})
}

// P8.1: every few entries, fields and levels held against what the chapter says.
func TestEveryFew(t *testing.T) {
	entries := []api.Entry{{}, {Key: "aaaaaaaaa"}, {Key: "aaaaaaaaa", Val: "xx"}, {Key: "bbbbbbbbb", Val: "xx"}, {Key: "bbbbbbbbb", Val: "xx", Ghost: true}, {Key: "ccccccccc", Val: "xxx"}}
	lists := [][]api.Entry{nil, {}}
	for _, a := range entries {
		lists = append(lists, []api.Entry{a})
		for _, b := range entries {
			lists = append(lists, []api.Entry{a, b})
			for _, c := range entries {
				lists = append(lists, []api.Entry{a, b, c})
			}
		}
	}
	for i, list := range lists {
		for _, high := range []string{"", "bbbbbbbbb", "ccccccccd", "x"} {
			for _, has := range []bool{false, true} {
				for _, level := range []int{-1, 0, 1, 12, 13} {
					asked(t, fmt.Sprint("list ", i), api.Node{Level: level, HasHigh: has, High: high, List: list})
				}
			}
		}
	}
}

// Rule 2: lists of nothing are alike, nil or empty.
func TestNothing(t *testing.T) {
	a, b := leaf(), leaf()
	a.List, b.List = nil, []api.Entry{}
	fits(t, "nil", a)
	fits(t, "empty", b)
	if written(t, a) != written(t, b) || !node.Same(a, b) || !node.Same(b, a) {
		t.Error("lists of nothing aren't alike")
	}
	if node.Find(a, key(1)) != -1 || node.Find(b, key(1)) != -1 {
		t.Error("something is found in nothing")
	}
}

// P8.2: the place of the last entry whose Key isn't above a key.
func TestFind(t *testing.T) {
	for count := range 30 {
		for _, level := range []int{0, 1} {
			n := api.Node{Level: level, HasHigh: true, High: key(10 * count), Right: 3, List: leaves(count, 2)}
			for at := -1; at < count; at++ {
				// Keys are 0, 10, 20 and so on: those from one to the next are found at it.
				for _, k := range []string{key(10 * at), key(10*at) + "\x00", key(10*at) + "more", key(10*at + 1), key(10*at + 5), key(10*at + 9), key(10*at+9) + "\xff"} {
					if at == -1 {
						k = strings.Replace(k, "key", "kex", 1)
					}
					if got := node.Find(n, k); got != at {
						t.Errorf("of %d entries Find(%q) = %d; want %d", count, k, got, at)
					}
				}
			}
			for _, c := range []struct {
				key string
				at  int
			}{
				{"", -1}, {node.Low, -1}, {"key", -1}, {"key00000", -1}, {"key", -1},
				{key(10*count + 1), count - 1}, {top, count - 1}, {top + top, count - 1}, {"kez", count - 1}, {"\x80", count - 1},
			} {
				if got := node.Find(n, c.key); got != c.at {
					t.Errorf("of %d entries Find(%q) = %d; want %d", count, c.key, got, c.at)
				}
			}
		}
	}
	ends := api.Node{List: []api.Entry{{Key: node.Low}, {Key: top}}}
	for k, at := range map[string]int{"": -1, "\x00": -1, node.Low[1:]: -1, node.Low: 0, node.Low + "\x00": 0, "m": 0, top[1:]: 0, top: 1, top + "\x00": 1} {
		if got := node.Find(ends, k); got != at {
			t.Errorf("at the ends Find(%q) = %d; want %d", k, got, at)
		}
	}
}

// P8.2: of raw entries, too, whatever their Keys are, each that is found isn't above the key, and each behind it is.
func TestFindRaw(t *testing.T) {
	n := api.Node{Tree: -1, List: []api.Entry{{Key: "m"}, {Key: ""}, {Key: "zz"}, {Key: "a", Ghost: true}, {Key: "aaaaaaaaaaaaaaa"}}}
	for _, k := range []string{"", "a", "aa", "b", "m", "y", "zz", "zzz", top} {
		at := node.Find(n, k)
		if at < -1 || at >= len(n.List) || at >= 0 && n.List[at].Key > k {
			t.Fatalf("Find(%q) = %d", k, at)
		}
		for _, e := range n.List[at+1:] {
			if e.Key <= k {
				t.Errorf("Find(%q) = %d, ahead of %q", k, at, e.Key)
			}
		}
	}
}

// P8.2: a node covers a key, if it has no High, or the key is below it.
func TestCovers(t *testing.T) {
	keys := []string{"", "\x00", node.Low, key(0), key(499), key(499) + "\xff", key(500)[:8], key(500), key(500) + "\x00", key(501), key(999999), top, top + top}
	for _, k := range keys {
		for _, high := range []string{"", "raw", key(500)} {
			n := api.Node{High: high, List: leaves(2, 3)}
			if !node.Covers(n, k) {
				t.Errorf("without High %q isn't covered", k)
			}
		}
		for _, high := range keys {
			n := api.Node{HasHigh: true, High: high, List: leaves(2, 3), Right: 9}
			if got := node.Covers(n, k); got != (strings.Compare(k, high) < 0) {
				t.Errorf("with High %q Covers(%q) = %v", high, k, got)
			}
		}
	}
}

// P8.2: nodes that differ in one field alone, or in one of an entry, aren't the same.
func TestSame(t *testing.T) {
	changes := []func(n *api.Node){
		func(n *api.Node) { n.Tree++ },
		func(n *api.Node) { n.Tree += 1 << 8 },
		func(n *api.Node) { n.Level++ },
		func(n *api.Node) { n.Level += 1 << 8 },
		func(n *api.Node) { n.Stamp++ },
		func(n *api.Node) { n.Stamp += 1 << 32 },
		func(n *api.Node) { n.HasHigh = !n.HasHigh },
		func(n *api.Node) { n.High += "\x00" },
		func(n *api.Node) { n.High = strings.Replace(n.High, "key", "kez", 1) + "x" },
		func(n *api.Node) { n.Right++ },
		func(n *api.Node) { n.Right += 1 << 16 },
		func(n *api.Node) { n.List = append(n.List, api.Entry{}) },
		func(n *api.Node) { n.List = n.List[:max(len(n.List)-1, 0)] },
		func(n *api.Node) { n.List = n.List[min(len(n.List), 1):] },
		func(n *api.Node) { n.List = nil },
	}
	for at := range 5 {
		for _, change := range []func(e *api.Entry){
			func(e *api.Entry) { e.Key += "\x00" },
			func(e *api.Entry) { e.Key = "other" },
			func(e *api.Entry) { e.Val += "\x00" },
			func(e *api.Entry) { e.Val = "other" },
			func(e *api.Entry) { e.Ghost = !e.Ghost },
		} {
			changes = append(changes, func(n *api.Node) {
				if at < len(n.List) {
					change(&n.List[at])
				}
			})
		}
	}
	clone := func(n api.Node) api.Node {
		n.List = slices.Clone(n.List)
		return n
	}
	raw := api.Node{Tree: -1, Level: 100, Stamp: math.MinInt, High: "raw", Right: math.MaxInt, List: []api.Entry{{Key: "b"}, {Key: "a", Val: strings.Repeat("v", 1000)}, {Key: "a"}}}
	for i, n := range append(few(), raw) {
		if !node.Same(n, clone(n)) {
			t.Errorf("node %d isn't the same as itself", i)
		}
		for j, change := range changes {
			m := clone(n)
			change(&m)
			if got, is := node.Same(n, m), same(n, m); got != is || node.Same(m, n) != is {
				t.Errorf("node %d and change %d: Same = %v, %v; want %v", i, j, got, node.Same(m, n), is)
			}
		}
	}
	list := samples()
	for i, a := range list {
		for j, b := range list {
			if node.Same(a, b) != same(a, b) {
				t.Errorf("samples %d and %d: Same = %v", i, j, node.Same(a, b))
			}
		}
	}
	turned := leaf()
	slices.Reverse(turned.List)
	if node.Same(leaf(), turned) {
		t.Error("the order of entries plays no part")
	}
}

// P8.2: an entry leads to the page of its two bytes; to 0, if they aren't two.
func TestChild(t *testing.T) {
	for _, c := range []struct {
		val  string
		page int
	}{
		{"", 0}, {"\x05", 0}, {"\xff", 0}, {"\x05\x00\x00", 0}, {"\x01\x02\x03", 0}, {strings.Repeat("\x01", 100), 0}, {mixed(1, 258), 0}, {mixed(2, 1<<16+2), 0},
		{"\x00\x00", 0}, {"\x05\x00", 5}, {"\xff\x00", 255}, {"\x00\x01", 256}, {"\x34\x12", 0x1234}, {"\xff\x7f", 0x7fff}, {"\x00\x80", 0x8000}, {"\xff\xff", 0xffff},
	} {
		for _, e := range []api.Entry{{Val: c.val}, {Key: key(1), Val: c.val}, {Key: "raw", Val: c.val, Ghost: true}} {
			if got := node.Child(e); got != c.page {
				t.Errorf("Child(%+v) = %d; want %d", e, got, c.page)
			}
		}
	}
}

// P8.2: an entry that leads to a page, by its lowest 16 bits.
func TestLead(t *testing.T) {
	for _, k := range []string{"", node.Low, key(1), top, "a longer key than there is"} {
		for _, page := range numbers() {
			expected := api.Entry{Key: k, Val: string(binary.LittleEndian.AppendUint16(nil, uint16(page)))}
			got := node.Lead(k, page)
			if got != expected || node.Child(got) != int(uint16(page)) {
				t.Errorf("Lead(%q, %d) = %+v, which leads to %d; want %+v", k, page, got, node.Child(got), expected)
			}
		}
		for page := range 1 << 16 {
			if got := node.Child(node.Lead(k, page)); got != page {
				t.Fatalf("Lead(%q, %d) leads to %d", k, page, got)
			}
		}
	}
	fits(t, "of leads", api.Node{Level: 1, List: []api.Entry{node.Lead(node.Low, 3), node.Lead(key(1), 255), node.Lead(top, -1)}})
}

// P8.1, P8.3: bytes that aren't as many as a page's are none's, cut off or lengthened.
func TestOtherSizes(t *testing.T) {
	none(t, "no bytes", "")
	for i, n := range few() {
		s := written(t, n)
		for size := range len(s) {
			none(t, fmt.Sprint("sample ", i, " cut to ", size), s[:size])
			none(t, fmt.Sprint("sample ", i, " without its first ", size+1), s[size+1:])
		}
		for _, more := range []string{"\x00", "\xff", "\x00\x00\x00\x00", s, s[:4], strings.Repeat("\x00", 256)} {
			none(t, fmt.Sprint("sample ", i, " and more"), s+more)
			none(t, fmt.Sprint("sample ", i, " behind more"), more+s)
		}
		// With the tail that is right for them.
		for size := range 600 {
			if size != 252 {
				none(t, fmt.Sprint("sample ", i, " in ", size), sealed(append([]byte(s[:252]), make([]byte, 400)...)[:size]))
			}
		}
		none(t, "without a tail", s[:252])
		none(t, "with the tail ahead", s[252:]+s[:252])
	}
}

// turned is bytes with some bits turned at a place.
func turned(s string, at int, bits string) string {
	b := []byte(s)
	for i := range len(bits) {
		b[at+i] ^= bits[i]
	}
	return string(b)
}

// P8.1, P8.3: a page of which one to four bytes that stand one behind the other were turned is none's, at every place, across the tail too.
func TestTurned(t *testing.T) {
	turns := []string{"\xff", "\xff\xff", "\xff\xff\xff", "\xff\xff\xff\xff", "\x01\x00\x00\x80", "\x80\x00\x00\x01", "\x01\x01\x01\x01", "\x80\x80\x80\x80", "\x20\x83\xb8\xed", "\xed\xb8\x83\x20", "\xaa\xaa\xaa\xaa", "\x12\x34\x56\x78", "\x00\x01\x10", "\x01\x80"}
	for bit := range 8 {
		turns = append(turns, string([]byte{1 << bit}))
	}
	for seed := range 20 {
		turns = append(turns, "\x01"+mixed(seed, 3), mixed(seed, 2)+"\x80")
	}
	for i, n := range few() {
		s := written(t, n)
		for _, bits := range turns {
			for at := 0; at+len(bits) <= len(s); at++ {
				none(t, fmt.Sprintf("sample %d, %q turned at %d", i, bits, at), turned(s, at, bits))
			}
		}
	}
}

// P8.3: one byte is any other one, at every place.
func TestAnyByte(t *testing.T) {
	for i, n := range few()[:3] {
		s := written(t, n)
		for at := range len(s) {
			for bits := 1; bits < 256; bits++ {
				none(t, fmt.Sprint("sample ", i, " at ", at), turned(s, at, string([]byte{byte(bits)})))
			}
		}
	}
}

// P8.1: pages whose tail is wrong.
func TestWrongTail(t *testing.T) {
	for i, n := range few() {
		s := written(t, n)
		for _, tail := range []string{"\x00\x00\x00\x00", "\xff\xff\xff\xff", s[253:] + s[252:253], turned(s[252:], 0, "\xff\xff\xff\xff"), written(t, api.Node{Tree: 9})[252:]} {
			none(t, fmt.Sprintf("sample %d with the tail %q", i, tail), s[:252]+tail)
		}
		b := []byte(s[:252])
		none(t, "the highest byte first", string(binary.BigEndian.AppendUint32(b[:252:252], crc32.ChecksumIEEE(b))))
		none(t, "the sum of what stands ahead of the bytes 0", string(binary.LittleEndian.AppendUint32(b[:252:252], crc32.ChecksumIEEE(ahead(n)))))
	}
}

// P8.1: pages with a right tail that tell of nodes that can't be.
func TestCannotBe(t *testing.T) {
	for i, change := range []func(n *api.Node){
		func(n *api.Node) { n.Level = 13 },
		func(n *api.Node) { n.Level = 255 },
		func(n *api.Node) { n.Stamp = 1 << 31 },
		func(n *api.Node) { n.Stamp = 1<<32 - 1 },
		func(n *api.Node) { n.Right = 256 },
		func(n *api.Node) { n.Right = 1<<16 - 1 },
		func(n *api.Node) { n.HasHigh = false },
		func(n *api.Node) { n.High = node.Low },
		func(n *api.Node) { n.High = n.List[len(n.List)-1].Key },
		func(n *api.Node) { n.High = n.List[0].Key },
		func(n *api.Node) { slices.Reverse(n.List) },
		func(n *api.Node) { n.List[1] = n.List[0] },
		func(n *api.Node) { n.List[2].Key = n.List[3].Key },
		func(n *api.Node) { n.List[3].Key = top },
		func(n *api.Node) { n.Level, n.List[0].Val = 1, "x" },
		func(n *api.Node) { n.Level, n.List[1].Val = 1, "xxx" },
		func(n *api.Node) { n.Level, n.List[3].Val = 12, "" },
		func(n *api.Node) { n.Level, n.List = 1, leads(4); n.List[3].Ghost = true },
		func(n *api.Node) { n.Level, n.List = 1, leads(4); n.List[0].Ghost = true },
		func(n *api.Node) { n.List = []api.Entry{{Key: key(0), Val: mixed(0, 101)}} },
		func(n *api.Node) { n.List = []api.Entry{{Key: key(0), Val: mixed(0, 201)}} },
		func(n *api.Node) { n.List = leaves(101, 0) },
	} {
		n := leaf()
		change(&n)
		if canBe(n) {
			t.Fatal("change ", i, " can be")
		}
		none(t, fmt.Sprint("change ", i), sealed(append(ahead(n), make([]byte, 252)...)[:252]))
		none(t, fmt.Sprint("change ", i), filled(ahead(n)))
	}
}

// P8.1: pages with a right tail that would have been written otherwise: flags that are neither 0 nor 1, a High of none that isn't bytes 0, bytes behind the entries that aren't 0, entries that reach behind the 252 bytes.
func TestOtherwise(t *testing.T) {
	put := func(n api.Node, at int, b byte) string {
		s := []byte(written(t, n)[:252])
		s[at] = b
		return sealed(s)
	}
	for b := 2; b < 256; b++ {
		none(t, fmt.Sprint("HasHigh of ", b), put(leaf(), 6, byte(b)))
		none(t, fmt.Sprint("HasHigh of ", b, ", and High 0"), put(api.Node{}, 6, byte(b)))
		none(t, fmt.Sprint("HasHigh of ", b, ", and High 0"), put(api.Node{HasHigh: true, High: node.Low}, 6, byte(b)))
		for at := range leaf().List {
			none(t, fmt.Sprint("a ghost of ", b), put(leaf(), 20+at*31+9, byte(b)))
		}
		none(t, fmt.Sprint("a ghost of ", b, " above the leaves"), put(inner(), 20+9, byte(b)))
	}
	for b := 1; b < 256; b++ {
		for at := 7; at < 16; at++ {
			none(t, "High of none", put(api.Node{}, at, byte(b)))
		}
	}
	for i, n := range few() {
		for at := size(n); at < 252; at++ {
			for _, b := range []byte{1, 2, 128, 255} {
				none(t, fmt.Sprint("sample ", i, ", behind the entries at ", at), put(n, at, b))
			}
		}
	}
	// One entry more than there is room for, of which some bytes stand there.
	for _, n := range []api.Node{{List: leaves(21, 0)}, {List: leaves(4, 47)}, {Level: 1, List: leads(17)}, {List: leaves(20, 0)}, {List: leaves(1, 100)}} {
		for _, more := range []int{1, 2, 3, 79, 100 - len(n.List), 255 - len(n.List), 65535 - len(n.List)} {
			s := []byte(written(t, n)[:252])
			binary.LittleEndian.PutUint16(s[18:], uint16(len(n.List)+more))
			none(t, fmt.Sprint(more, " entries more than there are"), sealed(s))
		}
	}
	// A Val that reaches behind the 252 bytes, by one byte and more.
	for _, val := range []int{79, 80, 100, 255} {
		n := api.Node{List: leaves(2, 64)}
		n.List = append(n.List, api.Entry{Key: key(90), Val: mixed(9, 71-53)})
		s := []byte(written(t, n)[:252])
		at := 20 + 2*75 + 10
		s[at] = byte(val)
		if at+1+val <= 252 {
			t.Fatal("it doesn't reach behind")
		}
		none(t, fmt.Sprint("a Val of ", val), sealed(s))
	}
	over := append(ahead(api.Node{List: leaves(2, 100)}), ahead(api.Node{List: leaves(3, 100)})[20+2*111:]...)
	over[18] = 3
	none(t, "three of 100, cut off", sealed(over[:252]))
	none(t, "three of 100", sealed(over))
}

// P8.1: one byte of a page is any other one, at every place, and the tail is right: it is written just so, or none.
func TestAlike(t *testing.T) {
	for i, n := range few()[:4] {
		s := []byte(written(t, n)[:252])
		for at := range s {
			was := s[at]
			for b := range 256 {
				s[at] = byte(b)
				alike(t, fmt.Sprint("sample ", i, " with ", b, " at ", at), sealed(s))
			}
			s[at] = was
		}
	}
}

// Rule 3: nodes that are handed in stay as they are, the spare room of their lists too; what is read shares nothing with another answer.
func TestNewMemory(t *testing.T) {
	n, spare := leaf(), leaf()
	n.List = n.List[:2]
	s := written(t, n)
	node.Good(n)
	node.Fits(n)
	node.Size(n)
	node.Find(n, top)
	node.Covers(n, top)
	node.Same(n, n)
	n.List = n.List[:4]
	if !same(n, spare) {
		t.Error("a node was changed")
	}
	n.List = n.List[:2]
	a, _ := node.Read(s)
	b, _ := node.Read(s)
	a.List[0] = api.Entry{}
	a.List = append(a.List[:1], leaves(3, 3)...)
	if !same(b, n) {
		t.Error("two answers share a list")
	}
	reads(t, "again", s, n)
}

// Rule 4: what was written or read ahead plays no part.
func TestAgain(t *testing.T) {
	list := samples()
	for i, n := range list {
		s := written(t, n)
		node.Bytes(list[(i+1)%len(list)])
		node.Read("abc")
		node.Bytes(api.Node{Tree: -1})
		if written(t, n) != s {
			t.Errorf("sample %d is written otherwise the second time", i)
		}
		reads(t, "again", s, n)
	}
}

// P8.1, P1: whatever bytes are read, they are no node's page, or one's that is written so; with a right tail too.
func FuzzRead(f *testing.F) {
	for _, n := range few() {
		f.Add(filled(ahead(n)))
		f.Add(string(ahead(n)))
	}
	f.Add("")
	f.Fuzz(func(t *testing.T, s string) {
		alike(t, "as it is", s)
		alike(t, "sealed", sealed([]byte(s)))
		alike(t, "filled", filled([]byte(s)))
		if len(s) > 252 {
			alike(t, "cut off", sealed([]byte(s[:252])))
		}
	})
}

// P8.1, P8.3, P1: whatever a node holds, it can't be, or doesn't fit, or is read as it was.
func FuzzBytes(f *testing.F) {
	f.Add(1, 0, 3, true, top, 4, "aaaaaaaaa", "x", true, "bbbbbbbbb", "", false, 2)
	f.Add(255, 12, greatest, false, "", 255, "aaaaaaaaa", "xx", false, "bbbbbbbbb", "yy", false, 2)
	f.Add(-1, 13, -1, true, "", 256, "", "", false, "b", "", true, 200)
	f.Fuzz(func(t *testing.T, tree, level, stamp int, has bool, high string, right int, k1, v1 string, g1 bool, k2, v2 string, g2 bool, count int) {
		n := api.Node{Tree: tree, Level: level, Stamp: stamp, HasHigh: has, High: high, Right: right}
		pair := []api.Entry{{Key: k1, Val: v1, Ghost: g1}, {Key: k2, Val: v2, Ghost: g2}}
		for i := range uint(count) % 120 {
			if i < 2 {
				n.List = append(n.List, pair[i])
			} else {
				n.List = append(n.List, api.Entry{Key: fmt.Sprintf("zzz%06d", i), Val: v1})
			}
		}
		asked(t, "as it is", n)
		if !node.Same(n, n) || node.Find(n, k1) < -1 || node.Find(n, k1) >= len(n.List) || node.Covers(n, k1) != (!has || k1 < high) {
			t.Fatalf("%+v is asked otherwise than it is", n)
		}
	})
}
