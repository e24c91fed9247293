package note_test

import (
	"bytes"
	"encoding/binary"
	"fmt"
	"hash/crc32"
	"math"
	"reflect"
	"strings"
	"testing"

	"gauger/api"
	"gauger/crc"
	"gauger/note"
)

// greatest is the greatest number that a record may hold.
const greatest = 1<<31 - 1

// mixed is n bytes among which there is no plain rule; others for another seed.
func mixed(seed, n int) string {
	b := make([]byte, n)
	x := uint32(seed + 1)
	for i := range b {
		x = x*1664525 + 1013904223
		b[i] = byte(x >> 24)
	}
	return string(b)
}

// page is a page's bytes; others for another seed.
func page(seed int) string { return mixed(seed, 256) }

// images is n pages, of rising numbers.
func images(n int) []api.Image {
	var list []api.Image
	for i := range n {
		list = append(list, api.Image{Page: i * 255 / max(n-1, 1), Data: page(i)})
	}
	return list
}

// opens is n open transactions.
func opens(n int) []api.Open {
	var list []api.Open
	for i := range n {
		list = append(list, api.Open{Deal: i * 1000, Last: greatest - i})
	}
	return list
}

// dirties is n pages that aren't safe.
func dirties(n int) []api.Dirty {
	var list []api.Dirty
	for i := range n {
		list = append(list, api.Dirty{Page: i % 256, First: i * 100000 % greatest})
	}
	return list
}

// full is the greatest record that can be.
func full() api.Record {
	return api.Record{Kind: 6, Deal: greatest, Prev: greatest, Next: greatest, Pages: images(8), Undo: api.Undo{Kind: 4, Tree: 255, Key: mixed(1, 255), Val: mixed(2, 255)}, Open: opens(16), Dirty: dirties(256)}
}

// samples is records that can be, of many kinds.
func samples() []api.Record {
	list := []api.Record{
		{Kind: api.RecCommit, Deal: 5},
		{Kind: api.RecDo, Deal: 1, Prev: 300, Pages: []api.Image{{Page: 3, Data: page(3)}}, Undo: api.Undo{Kind: api.UndoAdd, Tree: 2, Key: "key", Val: "val"}},
		{Kind: api.RecUndo, Deal: 0x01020304, Prev: 0x05060708, Next: 0x090a0b0c},
		{Kind: api.RecEnd, Undo: api.Undo{Kind: api.UndoPut, Tree: 0x0d, Key: "\x00\xff", Val: "\xff\x00"}},
		{Kind: api.RecSystem, Pages: []api.Image{{Page: 255, Data: page(9)}, {Page: 0, Data: strings.Repeat("\x00", 256)}, {Page: 255, Data: strings.Repeat("\xff", 256)}}},
		{Kind: api.RecMark, Open: []api.Open{{Deal: 1, Last: 0x11121314}, {Deal: 1, Last: 2}}, Dirty: []api.Dirty{{Page: 255, First: greatest}, {Page: 7, First: 0x15161718}, {Page: 7}}},
		full(),
	}
	for n := range 9 {
		list = append(list, api.Record{Kind: 1 + n%6, Pages: images(n)})
	}
	for n := range 17 {
		list = append(list, api.Record{Kind: 1 + n%6, Open: opens(n)})
	}
	for _, n := range []int{1, 2, 3, 127, 128, 254, 255, 256} {
		list = append(list, api.Record{Kind: 1 + n%6, Dirty: dirties(n)})
	}
	for _, n := range []int{0, 1, 2, 9, 127, 128, 254, 255} {
		list = append(list,
			api.Record{Kind: 1, Undo: api.Undo{Kind: n % 5, Tree: n, Key: mixed(n, n)}},
			api.Record{Kind: 1, Undo: api.Undo{Kind: n % 5, Tree: n, Val: mixed(n, n)}},
			api.Record{Kind: 1, Undo: api.Undo{Kind: n % 5, Tree: n, Key: mixed(n, n), Val: mixed(n+1, 255-n)}})
	}
	return list
}

// few is some of the samples, where each is looked at byte by byte.
func few() []api.Record { return samples()[:6] }

// body is what stands between head and tail, as the chapter tells it, whether the record can be or not: of each number the lowest bytes.
func body(r api.Record) []byte {
	var b bytes.Buffer
	put := func(n any) {
		if e := binary.Write(&b, binary.LittleEndian, n); e != nil {
			panic(e)
		}
	}
	put(byte(r.Kind))
	put([]uint32{uint32(r.Deal), uint32(r.Prev), uint32(r.Next)})
	put([]byte{byte(r.Undo.Kind), byte(r.Undo.Tree)})
	fmt.Fprintf(&b, "%c%s%c%s", 0, r.Undo.Key, 0, r.Undo.Val)
	all := b.Bytes()
	all[15], all[16+len(r.Undo.Key)] = byte(len(r.Undo.Key)), byte(len(r.Undo.Val))
	put(byte(len(r.Pages)))
	for _, i := range r.Pages {
		put(uint16(i.Page))
		b.WriteString(i.Data)
	}
	put(byte(len(r.Open)))
	for _, o := range r.Open {
		put([]uint32{uint32(o.Deal), uint32(o.Last)})
	}
	put(uint16(len(r.Dirty)))
	for _, d := range r.Dirty {
		put(uint16(d.Page))
		put(uint32(d.First))
	}
	return b.Bytes()
}

// whole is bytes with the number of them ahead, and the tail of the sum of all that behind.
func whole(body []byte) string { return headed(len(body), body) }

// headed is bytes with any number ahead, and the tail of the sum of all that behind.
func headed(n int, body []byte) string {
	b := append(binary.LittleEndian.AppendUint32(nil, uint32(n)), body...)
	return string(binary.LittleEndian.AppendUint32(b, crc32.ChecksumIEEE(b)))
}

// same tells whether two records are the same, lists of nothing alike.
func same(a, b api.Record) bool {
	return fmt.Sprintf("%+v", a) == fmt.Sprintf("%+v", b)
}

// written is a record's bytes.
func written(t testing.TB, r api.Record) string {
	t.Helper()
	s, e := note.Bytes(r)
	if e != api.OK || s == "" {
		t.Fatalf("Bytes(%+v) has %d bytes, %d", r, len(s), e)
	}
	return s
}

// none tells where bytes are read as a record.
func none(t testing.TB, what string, s string) {
	t.Helper()
	r, n, e := note.Read(s)
	if e != api.ErrForm || n != 0 || !reflect.DeepEqual(r, api.Record{}) {
		t.Fatalf("%s: Read has %d bytes, %d; want none, ErrForm", what, n, e)
	}
}

// reads tells where bytes don't begin with a record of so many bytes.
func reads(t testing.TB, what string, s string, r api.Record, size int) {
	t.Helper()
	got, n, e := note.Read(s)
	if e != api.OK || n != size || !same(got, r) {
		t.Fatalf("%s: Read = %+v, %d, %d; want %+v, %d, OK", what, got, n, e, r, size)
	}
}

// can tells where a record that can be isn't taken as one.
func can(t *testing.T, what string, r api.Record) {
	t.Helper()
	s, e := note.Bytes(r)
	expected := whole(body(r))
	if !note.Good(r) || e != api.OK || s != expected || note.Size(r) != len(expected) {
		t.Fatalf("%s: Good = %v, Size = %d, Bytes has %d bytes, %d; want %d bytes", what, note.Good(r), note.Size(r), len(s), e, len(expected))
	}
	reads(t, what, s, r, len(s))
}

// cannot tells where a record that can't be is taken as one that can.
func cannot(t *testing.T, what string, r api.Record) {
	t.Helper()
	s, e := note.Bytes(r)
	if note.Good(r) || e != api.ErrArg || s != "" || note.Size(r) != 0 {
		t.Fatalf("%s: Good = %v, Size = %d, Bytes has %d bytes, %d; want false, 0, none, ErrArg", what, note.Good(r), note.Size(r), len(s), e)
	}
}

// P6.1, P6.2: the chapter's example.
func TestExample(t *testing.T) {
	r := api.Record{Kind: 3, Deal: 5}
	s := written(t, r)
	ahead := "\x15\x00\x00\x00\x03\x05\x00\x00\x00" + strings.Repeat("\x00", 16)
	if s != crc.Seal(ahead) || len(s) != 29 || note.Size(r) != 29 || !note.Good(r) {
		t.Errorf("Bytes = %q, Size = %d", s, note.Size(r))
	}
	reads(t, "the example", s, r, 29)
}

// P6.1: bytes that are written out.
func TestBytesByHand(t *testing.T) {
	r := api.Record{
		Kind: 6, Deal: 0x01020304, Prev: 0x05060708, Next: 0x090a0b0c,
		Undo:  api.Undo{Kind: 4, Tree: 0xfe, Key: "ab", Val: "cde"},
		Pages: []api.Image{{Page: 0xf1, Data: page(1)}, {Page: 0xf0, Data: page(2)}},
		Open:  []api.Open{{Deal: 0x11121314, Last: 0x15161718}},
		Dirty: []api.Dirty{{Page: 0xf2, First: 0x191a1b1c}, {Page: 3, First: 4}},
	}
	ahead := "\x32\x02\x00\x00" +
		"\x06\x04\x03\x02\x01\x08\x07\x06\x05\x0c\x0b\x0a\x09" +
		"\x04\xfe\x02ab\x03cde" +
		"\x02\xf1\x00" + page(1) + "\xf0\x00" + page(2) +
		"\x01\x14\x13\x12\x11\x18\x17\x16\x15" +
		"\x02\x00\xf2\x00\x1c\x1b\x1a\x19\x03\x00\x04\x00\x00\x00"
	s := written(t, r)
	if s != crc.Seal(ahead) || note.Size(r) != len(ahead)+4 {
		t.Errorf("Bytes = %q, Size = %d", s, note.Size(r))
	}
	reads(t, "by hand", s, r, len(s))
}

// P6.1: bytes told in another way, of records of many kinds, and how many they are.
func TestBytes(t *testing.T) {
	for i, r := range samples() {
		can(t, fmt.Sprint("sample ", i), r)
		size := 29 + len(r.Undo.Key) + len(r.Undo.Val) + 258*len(r.Pages) + 8*len(r.Open) + 6*len(r.Dirty)
		if note.Size(r) != size {
			t.Errorf("sample %d: Size = %d; want %d", i, note.Size(r), size)
		}
	}
	if n := note.Size(full()); n != 29+510+8*258+16*8+256*6 {
		t.Errorf("Size of the greatest one = %d", n)
	}
}

// numbers are those about the ends of what may be, and at the ends of the types.
func numbers() []int {
	list := []int{math.MinInt, math.MinInt + 1, math.MinInt32, math.MaxInt - 1, math.MaxInt}
	for _, about := range []int{-1 << 32, -1 << 31, -256, 0, 5, 8, 16, 128, 256, 1 << 15, 1 << 16, 1 << 31, 1 << 32, 1 << 33} {
		for n := about - 3; n <= about+3; n++ {
			list = append(list, n)
		}
	}
	return list
}

// P6.1, Rule 6: each field that is a number, from its least to its greatest and beyond, at the ends of its type too.
func TestNumbers(t *testing.T) {
	good := full()
	for _, c := range []struct {
		name      string
		low, high int
		set       func(r *api.Record, n int)
	}{
		{"Kind", 1, 6, func(r *api.Record, n int) { r.Kind = n }},
		{"Deal", 0, greatest, func(r *api.Record, n int) { r.Deal = n }},
		{"Prev", 0, greatest, func(r *api.Record, n int) { r.Prev = n }},
		{"Next", 0, greatest, func(r *api.Record, n int) { r.Next = n }},
		{"Undo.Kind", 0, 4, func(r *api.Record, n int) { r.Undo.Kind = n }},
		{"Undo.Tree", 0, 255, func(r *api.Record, n int) { r.Undo.Tree = n }},
		{"the first Page", 0, 255, func(r *api.Record, n int) { r.Pages[0].Page = n }},
		{"the last Page", 0, 255, func(r *api.Record, n int) { r.Pages[7].Page = n }},
		{"the first Open's Deal", 0, greatest, func(r *api.Record, n int) { r.Open[0].Deal = n }},
		{"the last Open's Deal", 0, greatest, func(r *api.Record, n int) { r.Open[15].Deal = n }},
		{"the first Last", 0, greatest, func(r *api.Record, n int) { r.Open[0].Last = n }},
		{"the last Last", 0, greatest, func(r *api.Record, n int) { r.Open[15].Last = n }},
		{"the first Dirty's Page", 0, 255, func(r *api.Record, n int) { r.Dirty[0].Page = n }},
		{"the last Dirty's Page", 0, 255, func(r *api.Record, n int) { r.Dirty[255].Page = n }},
		{"the first First", 0, greatest, func(r *api.Record, n int) { r.Dirty[0].First = n }},
		{"the last First", 0, greatest, func(r *api.Record, n int) { r.Dirty[255].First = n }},
	} {
		for _, n := range numbers() {
			r := full()
			c.set(&r, n)
			what := fmt.Sprint(c.name, " ", n)
			if n >= c.low && n <= c.high {
				can(t, what, r)
			} else {
				cannot(t, what, r)
			}
		}
		can(t, "as it was", good)
	}
}

// P6.1: each Kind with each Undo's Kind: what a record is for plays no part in what it may hold.
func TestKinds(t *testing.T) {
	for kind := -1; kind <= 8; kind++ {
		for undo := -1; undo <= 6; undo++ {
			for _, r := range []api.Record{{}, {Deal: 7, Prev: 8, Next: 9}, {Pages: images(1), Open: opens(1), Dirty: dirties(1)}} {
				r.Kind, r.Undo.Kind = kind, undo
				what := fmt.Sprint("Kind ", kind, ", Undo.Kind ", undo)
				if kind >= 1 && kind <= 6 && undo >= 0 && undo <= 4 {
					can(t, what, r)
				} else {
					cannot(t, what, r)
				}
			}
		}
	}
}

// P6.1: Key and Val have at most 255 bytes, of any kind.
func TestTexts(t *testing.T) {
	for _, n := range []int{0, 1, 2, 9, 127, 128, 254, 255, 256, 257, 511, 512, 513, 1 << 16, 1<<16 + 1} {
		for _, s := range []string{mixed(n, n), strings.Repeat("\x00", n), strings.Repeat("\xff", n)} {
			key := api.Record{Kind: 1, Undo: api.Undo{Key: s}}
			val := api.Record{Kind: 1, Undo: api.Undo{Val: s}}
			if n <= 255 {
				can(t, fmt.Sprint("Key of ", n), key)
				can(t, fmt.Sprint("Val of ", n), val)
				continue
			}
			cannot(t, fmt.Sprint("Key of ", n), key)
			cannot(t, fmt.Sprint("Val of ", n), val)
		}
	}
}

// P6.1: at most 8 Pages, each with PageSize bytes, no fewer and no more.
func TestPages(t *testing.T) {
	for _, n := range []int{0, 1, 2, 7, 8, 9, 10, 255, 256, 257, 264} {
		if r := (api.Record{Kind: 1, Pages: images(n)}); n <= 8 {
			can(t, fmt.Sprint(n, " Pages"), r)
		} else {
			cannot(t, fmt.Sprint(n, " Pages"), r)
		}
	}
	for _, at := range []int{0, 3, 7} {
		for _, size := range []int{0, 1, 128, 254, 255, 256, 257, 258, 512, 1 << 16} {
			r := api.Record{Kind: 1, Pages: images(8)}
			r.Pages[at].Data = mixed(at, size)
			if what := fmt.Sprint("Data of ", size, " at ", at); size == 256 {
				can(t, what, r)
			} else {
				cannot(t, what, r)
			}
		}
	}
	// Of bytes that are all right in all, each page has to have its own.
	r := api.Record{Kind: 1, Pages: images(2)}
	r.Pages[0].Data, r.Pages[1].Data = mixed(0, 255), mixed(1, 257)
	cannot(t, "a byte too few and a byte too many", r)
}

// P6.1: at most MaxDeals Open, at most MaxPages Dirty.
func TestLists(t *testing.T) {
	for _, n := range []int{0, 1, 15, 16, 17, 18, 255, 256, 257, 272} {
		if r := (api.Record{Kind: 6, Open: opens(n)}); n <= 16 {
			can(t, fmt.Sprint(n, " Open"), r)
		} else {
			cannot(t, fmt.Sprint(n, " Open"), r)
		}
	}
	for _, n := range []int{0, 1, 254, 255, 256, 257, 258, 512, 1<<16 - 1, 1 << 16, 1<<16 + 1} {
		if r := (api.Record{Kind: 6, Dirty: dirties(n)}); n <= 256 {
			can(t, fmt.Sprint(n, " Dirty"), r)
		} else {
			cannot(t, fmt.Sprint(n, " Dirty"), r)
		}
	}
}

// P6.1: elements of lists may be the same, and stand in any order.
func TestSameElements(t *testing.T) {
	r := api.Record{Kind: 6}
	for i := range 8 {
		r.Pages = append(r.Pages, api.Image{Page: 7 - i/2, Data: page(i / 3)})
	}
	for i := range 16 {
		r.Open = append(r.Open, api.Open{Deal: 5 - i/3, Last: 9})
	}
	for range 256 {
		r.Dirty = append(r.Dirty, api.Dirty{Page: 4, First: 4})
	}
	can(t, "the same elements", r)
}

// Rule 2: lists of nothing are alike, nil or empty.
func TestNothing(t *testing.T) {
	a := api.Record{Kind: 2, Deal: 3}
	b := api.Record{Kind: 2, Deal: 3, Pages: []api.Image{}, Open: []api.Open{}, Dirty: []api.Dirty{}}
	if written(t, a) != written(t, b) || note.Size(a) != note.Size(b) {
		t.Error("lists of nothing aren't alike")
	}
	can(t, "nothing", b)
}

// P6.2, P6.3: whatever stands behind a record, it is read as it was.
func TestBehind(t *testing.T) {
	for i, r := range samples() {
		s := written(t, r)
		for _, behind := range []string{"", "\x00", "\xff", "abc", "\x00\x00\x00\x00", "\xff\xff\xff\xff", s, s[1:], s[:len(s)-1], mixed(i, 5000), strings.Repeat("\x00", 300)} {
			reads(t, fmt.Sprint("sample ", i), s+behind, r, len(s))
		}
		none(t, "a byte ahead", "\x00"+s)
		none(t, "a byte too late", s[1:])
	}
}

// P6.2, P6.3: records one behind the other are read one by one.
func TestRow(t *testing.T) {
	list := samples()
	var all strings.Builder
	for _, r := range list {
		all.WriteString(written(t, r))
	}
	rest := all.String()
	for i, r := range list {
		reads(t, fmt.Sprint("record ", i), rest, r, note.Size(r))
		rest = rest[note.Size(r):]
	}
	none(t, "behind all", rest)
}

// P6.2, P6.3: no beginning of a record that isn't all of it is one.
func TestCut(t *testing.T) {
	for i, r := range samples() {
		s := written(t, r)
		for n := range len(s) {
			none(t, fmt.Sprint("sample ", i, " cut to ", n), s[:n])
		}
	}
	// Nor behind a record that is whole.
	a, b := written(t, few()[0]), written(t, few()[1])
	for n := range len(b) {
		reads(t, "a whole one", a+b[:n], few()[0], len(a))
		none(t, "a cut one", (a + b[:n])[len(a):])
	}
}

// turns is what bits are turned, in one byte up to four that stand one behind the other.
func turns() []string {
	list := []string{
		"\xff", "\xff\xff", "\xff\xff\xff", "\xff\xff\xff\xff", "\x01\x00\x00\x80", "\x80\x00\x00\x01", "\x01\x01\x01\x01", "\x80\x80\x80\x80",
		"\x20\x83\xb8\xed", "\xed\xb8\x83\x20", "\xaa\xaa\xaa\xaa", "\x55\x55\x55\x55", "\x12\x34\x56\x78", "\x00\x01\x10", "\x01\x80",
	}
	for bit := range 8 {
		list = append(list, string([]byte{1 << bit}))
	}
	for seed := range 5 {
		list = append(list, "\x01"+mixed(seed, 3))
	}
	return list
}

// turned is bytes with some bits turned at a place.
func turned(s string, at int, bits string) string {
	b := []byte(s)
	for i := range len(bits) {
		b[at+i] ^= bits[i]
	}
	return string(b)
}

// P6.3: a record of which bits were turned within four bytes that stand one behind the other, anywhere behind its first four, is none, whatever stands behind.
func TestTurned(t *testing.T) {
	for i, r := range few() {
		s := written(t, r)
		for _, bits := range turns() {
			for at := 4; at+len(bits) <= len(s); at++ {
				none(t, fmt.Sprintf("sample %d, %q turned at %d", i, bits, at), turned(s, at, bits)+"behind")
			}
		}
	}
	s := written(t, full())
	for at := 4; at < len(s); at++ {
		none(t, fmt.Sprint("the greatest one turned at ", at), turned(s, at, "\x10"))
	}
}

// P6.3: one byte is any other one, at every place behind the first four.
func TestAnyByte(t *testing.T) {
	for i, r := range few()[:4] {
		s := written(t, r)
		for at := 4; at < len(s); at++ {
			for turn := 1; turn < 256; turn++ {
				none(t, fmt.Sprint("sample ", i, " at ", at), turned(s, at, string([]byte{byte(turn)})))
			}
		}
	}
}

// P6.2: a number at the head that isn't how many bytes stand there: too great, too small, as great as can be; with the tail as it was, and with one that is right for so many bytes.
func TestHead(t *testing.T) {
	for i, r := range samples() {
		between := body(r)
		for _, n := range []int{0, 1, 4, 20, len(between) - 4, len(between) - 1, len(between) + 1, len(between) + 4, len(between) + 5, 1 << 8, 1 << 16, 1<<24 - 1, greatest, greatest + 1, 1<<32 - 5, 1<<32 - 4, 1<<32 - 1} {
			if n < 0 || n == len(between) {
				continue
			}
			what := fmt.Sprint("sample ", i, " with ", n, " at the head")
			s := headed(n, between)
			none(t, what, s)
			none(t, what, s+"behind")
			none(t, what, string(binary.LittleEndian.AppendUint32(nil, uint32(n)))+whole(between)[4:])
			if n < len(between) {
				none(t, what, headed(n, between[:n]))
			}
			if n < 1<<20 {
				none(t, what, headed(n, append(between[:len(between):len(between)], make([]byte, max(n-len(between), 0))...)))
			}
		}
	}
}

// P6.2: bytes that aren't long enough for a head and a tail, or hold nothing between.
func TestNoRecord(t *testing.T) {
	none(t, "no bytes", "")
	for n := range 64 {
		none(t, fmt.Sprint(n, " bytes 0"), strings.Repeat("\x00", n))
		none(t, fmt.Sprint(n, " bytes 255"), strings.Repeat("\xff", n))
		none(t, fmt.Sprint(n, " mixed bytes"), mixed(n, n))
		none(t, fmt.Sprint(n, " sealed bytes 0"), whole(make([]byte, n)))
		none(t, fmt.Sprint(n, " sealed mixed bytes"), whole([]byte(mixed(n, n))))
		none(t, fmt.Sprint(n, " sealed bytes 0 behind Kind 1"), whole(append([]byte{1}, make([]byte, n+21)...)))
		if n < 20 {
			none(t, fmt.Sprint(n, " sealed bytes 0 behind Kind 1"), whole(append([]byte{1}, make([]byte, n)...)))
		}
	}
	reads(t, "the shortest one", whole(append([]byte{1}, make([]byte, 20)...)), api.Record{Kind: 1}, 29)
	// The tail is sought behind so many bytes as the head tells, not at the end.
	s := whole(body(api.Record{Kind: 1}))
	none(t, "a gap ahead of the tail", s[:len(s)-4]+"\x00"+s[len(s)-4:])
}

// P6.2: bytes with a right head and a right tail that are no record that can be.
func TestCannotBe(t *testing.T) {
	for i, change := range []func(r *api.Record){
		func(r *api.Record) { r.Kind = 0 },
		func(r *api.Record) { r.Kind = 7 },
		func(r *api.Record) { r.Kind = 255 },
		func(r *api.Record) { r.Deal = 1 << 31 },
		func(r *api.Record) { r.Deal = 1<<32 - 1 },
		func(r *api.Record) { r.Prev = 1 << 31 },
		func(r *api.Record) { r.Prev = 1<<32 - 1 },
		func(r *api.Record) { r.Next = 1 << 31 },
		func(r *api.Record) { r.Next = 1<<32 - 1 },
		func(r *api.Record) { r.Undo.Kind = 5 },
		func(r *api.Record) { r.Undo.Kind = 255 },
		func(r *api.Record) { r.Pages = images(9) },
		func(r *api.Record) { r.Pages = images(255) },
		func(r *api.Record) { r.Pages[0].Page = 256 },
		func(r *api.Record) { r.Pages[7].Page = 1<<16 - 1 },
		func(r *api.Record) { r.Open = opens(17) },
		func(r *api.Record) { r.Open = opens(255) },
		func(r *api.Record) { r.Open[0].Deal = 1 << 31 },
		func(r *api.Record) { r.Open[15].Last = 1<<32 - 1 },
		func(r *api.Record) { r.Dirty = dirties(257) },
		func(r *api.Record) { r.Dirty = dirties(1<<16 - 1) },
		func(r *api.Record) { r.Dirty[0].Page = 256 },
		func(r *api.Record) { r.Dirty[255].Page = 1<<16 - 1 },
		func(r *api.Record) { r.Dirty[0].First = 1 << 31 },
		func(r *api.Record) { r.Dirty[255].First = 1<<32 - 1 },
	} {
		for _, r := range []api.Record{full(), {Kind: 1, Pages: images(8), Open: opens(16), Dirty: dirties(256)}} {
			change(&r)
			s := whole(body(r))
			none(t, fmt.Sprint("change ", i), s)
			none(t, fmt.Sprint("change ", i), s+s)
		}
	}
}

// P6.2: bytes with a right head and a right tail that a record would have been written otherwise: with a byte more, or fewer, at any place; with numbers of elements, or of bytes, that don't fit what stands there.
func TestOtherwise(t *testing.T) {
	for i, r := range few() {
		between := body(r)
		for at := range len(between) + 1 {
			what := fmt.Sprint("sample ", i, " at ", at)
			for _, more := range []string{"\x00", "\x00\x00", "\x00\x00\x00\x00", "\x01", "\xff", "abcdefgh"} {
				// A byte more may well stand for another record: then it is written just so.
				alike(t, what, whole([]byte(string(between[:at])+more+string(between[at:]))))
			}
			if at < len(between) {
				alike(t, what, whole([]byte(string(between[:at])+string(between[at+1:]))))
				// Of a page's bytes any may be any: few turns do.
				step := 1
				if len(between) > 256 {
					step = 51
				}
				for turn := 1; turn < 256; turn += step {
					alike(t, what, whole([]byte(turned(string(between), at, string([]byte{byte(turn)})))))
				}
			}
		}
		none(t, "a byte behind all", whole(append(between[:len(between):len(between)], 0)))
		none(t, "two bytes behind all", whole(append(between[:len(between):len(between)], 0, 0)))
		none(t, "a byte too few", whole(between[:len(between)-1]))
	}
	bare := string(body(api.Record{Kind: 1}))
	for _, at := range []int{15, 16, 17, 18, 19, 20} {
		for _, n := range []byte{1, 2, 8, 255} {
			none(t, fmt.Sprint("of nothing ", n, " at ", at), whole([]byte(bare[:at]+string([]byte{n})+bare[at+1:])))
		}
	}
	// One element too few for what is told, and one too many.
	one := string(body(api.Record{Kind: 1, Open: opens(2)}))
	none(t, "one Open too few", whole([]byte(one[:18]+"\x03"+one[19:])))
	none(t, "one Open too many", whole([]byte(one[:18]+"\x01"+one[19:])))
	// The tail is that of all that stands ahead of it, the head too.
	b := body(api.Record{Kind: 1})
	s := whole(b)
	none(t, "a tail without the head", s[:len(s)-4]+crc.Tail(crc.Sum(string(b))))
}

// alike tells where bytes are read as a record that isn't written as them.
func alike(t testing.TB, what string, s string) {
	t.Helper()
	r, n, e := note.Read(s)
	if e != api.OK {
		none(t, what, s)
		return
	}
	if !note.Good(r) || n != note.Size(r) || n > len(s) || written(t, r) != s[:n] || whole(body(r)) != s[:n] {
		t.Fatalf("%s: %q is read as %+v of %d bytes, which is written as %q", what, s, r, n, written(t, r))
	}
}

// Rule 3: records that are handed in stay as they are, the spare room of their lists too; what is read shares nothing with another answer.
func TestNewMemory(t *testing.T) {
	r, spare := full(), full()
	r.Pages, r.Open, r.Dirty = r.Pages[:3], r.Open[:4], r.Dirty[:5]
	s := written(t, r)
	if !note.Good(r) || note.Size(r) != len(s) {
		t.Error("a part of lists can't be")
	}
	r.Pages, r.Open, r.Dirty = r.Pages[:8], r.Open[:16], r.Dirty[:256]
	if !same(r, spare) {
		t.Error("a record was changed")
	}
	s = written(t, r)
	a, _, _ := note.Read(s)
	b, _, _ := note.Read(s)
	for i := range a.Pages {
		a.Pages[i] = api.Image{}
	}
	a.Pages, a.Open, a.Dirty = append(a.Pages, images(2)...), append(a.Open[:1], opens(3)...), append(a.Dirty[:1], dirties(3)...)
	if !same(b, spare) || written(t, b) != s {
		t.Error("two answers share a list")
	}
	reads(t, "again", s, spare, len(s))
}

// Rule 4: what was written or read ahead plays no part.
func TestAgain(t *testing.T) {
	list := samples()
	for i, r := range list {
		s := written(t, r)
		note.Bytes(list[(i+1)%len(list)])
		note.Read("abc")
		note.Bytes(api.Record{Kind: 9})
		if written(t, r) != s {
			t.Errorf("sample %d is written otherwise the second time", i)
		}
		reads(t, "again", s, r, len(s))
	}
}

// P6.2, P1: whatever bytes are read, they are no record, or written as they were; with a right tail too.
func FuzzRead(f *testing.F) {
	for _, r := range few() {
		f.Add(whole(body(r)))
		f.Add(string(body(r)))
	}
	f.Add("")
	f.Add("\xff\xff\xff\xff\xff\xff\xff\xff")
	f.Fuzz(func(t *testing.T, s string) {
		alike(t, "as it is", s)
		alike(t, "sealed", whole([]byte(s)))
		alike(t, "sealed, and more", whole([]byte(s))+s)
		if len(s) > 0 {
			alike(t, "with a head of its own", headed(int(s[0]), []byte(s)))
		}
	})
}

// P6.1, P6.3, P1: whatever a record holds, it can't be, or is read as it was.
func FuzzBytes(f *testing.F) {
	f.Add(3, 5, 0, 0, 0, 0, "", "", 0, 256, 0, 0, 0, 0)
	f.Add(6, greatest, greatest, greatest, 4, 255, "key", "val", 8, 256, 16, greatest, 256, 255)
	f.Add(1, -1, 1, 1, 1, 1, "", "", 1, 255, 17, -1, 257, 256)
	f.Fuzz(func(t *testing.T, kind, deal, prev, next, undo, tree int, key, val string, pages, size, open, last, dirty, at int) {
		r := api.Record{Kind: kind, Deal: deal, Prev: prev, Next: next, Undo: api.Undo{Kind: undo, Tree: tree, Key: key, Val: val}}
		for i := range uint(pages) % 12 {
			r.Pages = append(r.Pages, api.Image{Page: at, Data: mixed(int(i), int(uint(size)%300))})
		}
		for i := range uint(open) % 20 {
			r.Open = append(r.Open, api.Open{Deal: int(i), Last: last})
		}
		for i := range uint(dirty) % 260 {
			r.Dirty = append(r.Dirty, api.Dirty{Page: int(i) % 256, First: last})
		}
		if !note.Good(r) {
			cannot(t, "as it is", r)
			return
		}
		can(t, "as it is", r)
	})
}
