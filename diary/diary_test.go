package diary_test

import (
	"fmt"
	"math"
	"reflect"
	"strings"
	"testing"

	"gauger/api"
	"gauger/crc"
	"gauger/diary"
	"gauger/mains"
	"gauger/note"
	"gauger/reel"
)

// mixed is n bytes among which there is no plain rule; others for another seed.
func mixed(seed, n int) string {
	b := make([]byte, n)
	x := uint32(seed + 1)
	for i := range b {
		x = x*1664525 + 1013904223
		b[i] = byte(x >> 24)
	}
	return string(b)
}

// bare is the record of 29 bytes of a transaction.
func bare(deal int) api.Record { return api.Record{Kind: api.RecCommit, Deal: deal} }

// sized is a record of n bytes, from 29 to 539.
func sized(n int) api.Record {
	key := min(n-29, 255)
	return api.Record{Kind: api.RecDo, Deal: n, Undo: api.Undo{Key: mixed(n, key), Val: mixed(n+1, n-29-key)}}
}

// greatest is the greatest record that can be.
func greatest() api.Record {
	r := api.Record{Kind: api.RecMark, Deal: 1<<31 - 1, Prev: 1<<31 - 1, Next: 1<<31 - 1, Undo: api.Undo{Kind: 4, Tree: 255, Key: mixed(1, 255), Val: mixed(2, 255)}}
	for i := range 8 {
		r.Pages = append(r.Pages, api.Image{Page: i, Data: mixed(i, 256)})
	}
	for i := range 16 {
		r.Open = append(r.Open, api.Open{Deal: i, Last: 1<<31 - 1 - i})
	}
	for i := range 256 {
		r.Dirty = append(r.Dirty, api.Dirty{Page: i, First: 1<<31 - 1 - i})
	}
	return r
}

// nest is a record in the midst of which the bytes of another one stand.
func nest() api.Record {
	inner, _ := note.Bytes(bare(77))
	return api.Record{Kind: api.RecSystem, Pages: []api.Image{{Page: 1, Data: inner + inner + strings.Repeat("\x00", 256-2*len(inner))}}}
}

// samples is records of all kinds, of several sizes.
func samples() []api.Record {
	return []api.Record{
		bare(5),
		{Kind: api.RecDo, Deal: 1, Prev: 300, Pages: []api.Image{{Page: 3, Data: mixed(3, 256)}}, Undo: api.Undo{Kind: api.UndoAdd, Tree: 2, Key: "key", Val: "val"}},
		{Kind: api.RecUndo, Deal: 1, Prev: 30, Next: 7, Pages: []api.Image{{Page: 0, Data: mixed(4, 256)}, {Page: 255, Data: mixed(5, 256)}}},
		nest(),
		{Kind: api.RecEnd, Deal: 1 << 30},
		bare(5),
		{Kind: api.RecMark, Open: []api.Open{{Deal: 1, Last: 2}, {Deal: 3, Last: 4}}, Dirty: []api.Dirty{{Page: 255, First: 1}, {Page: 2, First: 3}}},
		greatest(),
		sized(30),
		sized(539),
	}
}

// impossible is records that can't be.
func impossible() []api.Record {
	return []api.Record{
		{}, {Kind: -1}, {Kind: 7}, {Kind: math.MaxInt}, {Kind: 1, Deal: -1}, {Kind: 1, Deal: 1 << 31}, {Kind: 1, Prev: -1}, {Kind: 1, Prev: math.MinInt}, {Kind: 1, Next: 1 << 31},
		{Kind: 1, Pages: []api.Image{{Data: "x"}}}, {Kind: 1, Pages: []api.Image{{Page: 256, Data: mixed(1, 256)}}}, {Kind: 1, Pages: make([]api.Image, 9)},
		{Kind: 1, Undo: api.Undo{Kind: 5}}, {Kind: 1, Undo: api.Undo{Tree: 256}}, {Kind: 1, Undo: api.Undo{Key: strings.Repeat("k", 256)}}, {Kind: 1, Undo: api.Undo{Val: strings.Repeat("v", 1<<19)}},
		{Kind: 6, Open: make([]api.Open, 17)}, {Kind: 6, Dirty: make([]api.Dirty, 257)}, {Kind: 6, Dirty: []api.Dirty{{First: -1}}},
	}
}

// bytesOf is the bytes of records, one behind the other.
func bytesOf(t testing.TB, list ...api.Record) string {
	t.Helper()
	var all strings.Builder
	for _, r := range list {
		s, e := note.Bytes(r)
		want(t, "Bytes", e, api.OK)
		all.WriteString(s)
	}
	return all.String()
}

// stamps is where records stand, one behind the other, from 1 on.
func stamps(list []api.Record) []int {
	var all []int
	at := 1
	for _, r := range list {
		all = append(all, at)
		at += note.Size(r)
	}
	return all
}

// ends is numbers at the ends of the types of whole numbers, and about them.
func ends() []int {
	return []int{math.MinInt, math.MinInt + 1, -1 << 32, math.MinInt32, -256, -2, -1, math.MaxInt32, math.MaxUint32, 1 << 32, 1<<32 + 1, math.MaxInt - 1, math.MaxInt}
}

// want tells where an answer isn't the expected error.
func want(t testing.TB, what string, e, expected api.Errno) {
	t.Helper()
	if e != expected {
		t.Fatalf("%s: %d; want %d", what, e, expected)
	}
}

// same tells whether two records are the same, lists of nothing alike.
func same(a, b api.Record) bool {
	return reflect.DeepEqual(a, b) || fmt.Sprintf("%+v", a) == fmt.Sprintf("%+v", b)
}

// told tells where a list of records isn't that of some, with their stamps.
func told(t testing.TB, list []diary.Stamped, records []api.Record) {
	t.Helper()
	if len(list) != len(records) {
		t.Fatalf("%d records; want %d", len(list), len(records))
	}
	for i, at := range stamps(records) {
		if list[i].Stamp != at || !same(list[i].Record, records[i]) {
			t.Fatalf("record %d: %+v; want %d, %+v", i, list[i], at, records[i])
		}
	}
}

// has tells where a log hasn't just some records: asked for each stamp from below 0 to behind the last one, and at the ends; twice, since asking changes nothing.
func has(t testing.TB, l *diary.Log, records ...api.Record) {
	t.Helper()
	places := map[int]int{}
	at, last, behind := stamps(records), 0, 1
	for i, r := range records {
		places[at[i]], last, behind = i, at[i], at[i]+note.Size(r)
	}
	list := ends()
	for stamp := -3; stamp < behind+40; stamp++ {
		list = append(list, stamp)
	}
	for range 2 {
		if l.Last() != last {
			t.Fatalf("Last() = %d; want %d", l.Last(), last)
		}
		for _, stamp := range list {
			r, ok := l.At(stamp)
			i, there := places[stamp]
			if ok != there || there && !same(r, records[i]) || !there && !same(r, api.Record{}) {
				t.Fatalf("At(%d) = %+v, %v", stamp, r, ok)
			}
		}
	}
}

// safe tells where of a log's records not just those are safe that end within the first n bytes, or another stamp is.
func safe(t testing.TB, l *diary.Log, n int, records ...api.Record) {
	t.Helper()
	expected := map[int]bool{}
	behind := 1
	for i, at := range stamps(records) {
		behind = at + note.Size(records[i])
		expected[at] = behind-1 <= n
	}
	for stamp := -3; stamp < behind+40; stamp++ {
		if l.IsSafe(stamp) != expected[stamp] {
			t.Fatalf("IsSafe(%d) = %v; want %v", stamp, l.IsSafe(stamp), expected[stamp])
		}
	}
	for _, stamp := range ends() {
		if l.IsSafe(stamp) {
			t.Fatalf("IsSafe(%d)", stamp)
		}
	}
}

// counts tells where a reel hasn't so many bytes, so many of them safe.
func counts(t testing.TB, r *reel.Reel, all, safe int) {
	t.Helper()
	if r.Len() != all || r.Safe() != safe {
		t.Fatalf("the reel has %d bytes, %d of them safe; want %d, %d", r.Len(), r.Safe(), all, safe)
	}
}

// opened is the log of a reel that can be opened, and its records.
func opened(t testing.TB, r *reel.Reel) (*diary.Log, []diary.Stamped) {
	t.Helper()
	l, list, e := diary.Open(r)
	want(t, "Open", e, api.OK)
	if l == nil {
		t.Fatal("Open answers no log")
	}
	return l, list
}

// fresh is the log of an empty reel with room for so many bytes, on power of its own.
func fresh(t testing.TB, size int) (*mains.Mains, *reel.Reel, *diary.Log) {
	t.Helper()
	m := mains.New()
	r := reel.New(m, size)
	l, list := opened(t, r)
	told(t, list, nil)
	return m, r, l
}

// reeled is a reel, on power of its own, of the given room, with safe bytes and bytes behind them that aren't.
func reeled(t testing.TB, size int, safe, rest string) (*mains.Mains, *reel.Reel) {
	t.Helper()
	m := mains.New()
	r := reel.New(m, size)
	want(t, "Append", r.Append(safe), api.OK)
	want(t, "Sync", r.Sync(), api.OK)
	want(t, "Append", r.Append(rest), api.OK)
	return m, r
}

// add adds records that find room.
func add(t testing.TB, l *diary.Log, records ...api.Record) []int {
	t.Helper()
	var all []int
	for _, r := range records {
		stamp, e := l.Add(r)
		want(t, "Add", e, api.OK)
		all = append(all, stamp)
	}
	return all
}

// refused tells where a record isn't refused with an error.
func refused(t testing.TB, l *diary.Log, r api.Record, expected api.Errno) {
	t.Helper()
	if stamp, e := l.Add(r); stamp != 0 || e != expected {
		t.Fatalf("Add = %d, %d; want 0, %d", stamp, e, expected)
	}
}

// closed tells where a reel isn't refused with an error.
func closed(t testing.TB, r *reel.Reel, expected api.Errno) {
	t.Helper()
	l, list, e := diary.Open(r)
	if l != nil || len(list) != 0 || e != expected {
		t.Fatalf("Open = %v, %v, %d; want none, %d", l, list, e, expected)
	}
}

// uses tells where the power wasn't used just so often by a call.
func uses(t testing.TB, what string, m *mains.Mains, n int, call func()) {
	t.Helper()
	const fuse = 10
	m.Fuse(fuse)
	call()
	left := 0
	for m.Use() == api.OK {
		left++
	}
	m.On()
	if left != fuse-n {
		t.Fatalf("%s used the power %d times; want %d", what, fuse-left, n)
	}
}

// P7.2: the chapter's example.
func TestExample(t *testing.T) {
	_, r, l := fresh(t, api.MaxLog)
	if at := add(t, l, bare(0), bare(1)); at[0] != 1 || at[1] != 30 {
		t.Fatalf("the stamps %v; want 1 and 30", at)
	}
	has(t, l, bare(0), bare(1))
	counts(t, r, 58, 0)
}

// P7.1: an empty reel, of any room, has no records; nothing is cut off, so the power isn't used; nothing is held.
func TestOpenEmpty(t *testing.T) {
	for _, size := range []int{0, 1, 28, 29, 30, 1000, api.MaxLog} {
		m := mains.New()
		r := reel.New(m, size)
		uses(t, "Open", m, 0, func() {
			l, list := opened(t, r)
			told(t, list, nil)
			has(t, l)
			safe(t, l, size)
			if l.Room() != size {
				t.Fatalf("Room() = %d; want %d", l.Room(), size)
			}
			for _, stamp := range []int{-1, 0, 1, 2} {
				want(t, "Force", l.Force(stamp), api.ErrArg)
			}
		})
		counts(t, r, 0, 0)
	}
}

// P7.1: the records with which a reel begins, in order, with their stamps; nothing is cut off, and what isn't safe stays so, without a use of the power.
func TestOpenWhole(t *testing.T) {
	for n := range len(samples()) + 1 {
		records := samples()[:n]
		data := bytesOf(t, records...)
		for _, part := range []int{0, 29, len(data) / 2, len(data) - 1, len(data)} {
			if part < 0 || part > len(data) {
				continue
			}
			m, r := reeled(t, len(data)+100, data[:part], data[part:])
			uses(t, "Open", m, 0, func() {
				l, list := opened(t, r)
				told(t, list, records)
				has(t, l, records...)
				safe(t, l, part, records...)
				if l.Room() != 100 {
					t.Fatalf("Room() = %d; want 100", l.Room())
				}
			})
			counts(t, r, len(data), part)
			if s, e := r.Read(); s != data || e != api.OK {
				t.Fatal("Open changed the reel's bytes")
			}
		}
	}
}

// tails is bytes that are no record, though some of them hold one.
func tails(t testing.TB) []string {
	whole := bytesOf(t, bare(9))
	paged := bytesOf(t, nest())
	list := []string{"t", "torn", "\x00", strings.Repeat("\x00", 400), strings.Repeat("\xff", 400), mixed(1, 1000), "x" + whole, "\x00" + whole + whole, paged[:200], paged[len(paged)-60:]}
	for n := 1; n < len(whole); n++ {
		list = append(list, whole[:n], whole[:n]+whole)
	}
	for at := 4; at < len(whole); at++ {
		turned := []byte(whole)
		turned[at] ^= 1 << (at % 8)
		list = append(list, string(turned), string(turned)+whole)
	}
	// Bytes under a right seal that tell of no record that can be.
	return append(list, crc.Seal("\x15\x00\x00\x00\x07"+strings.Repeat("\x00", 20)), crc.Seal("\x00\x00\x00\x00")+whole)
}

// P7.1: bytes that are no record are cut off, and whatever stands behind them too; what is left is safe; a reel that begins with none is empty then.
func TestOpenTorn(t *testing.T) {
	for _, n := range []int{0, 1, 2, 5} {
		records := samples()[:n]
		data := bytesOf(t, records...)
		for _, tail := range tails(t) {
			for _, part := range []int{0, len(data), len(data) + len(tail)/2, len(data) + len(tail)} {
				all := data + tail
				m, r := reeled(t, len(all)+29, all[:part], all[part:])
				uses(t, "Open", m, 1, func() {
					l, list := opened(t, r)
					told(t, list, records)
					has(t, l, records...)
					safe(t, l, len(data), records...)
					if l.Room() != len(tail)+29 {
						t.Fatalf("Room() = %d; want %d", l.Room(), len(tail)+29)
					}
				})
				counts(t, r, len(data), len(data))
				if s, e := r.Read(); s != data || e != api.OK {
					t.Fatalf("%q is left of %q", s, all)
				}
			}
		}
	}
}

// P7.1: behind what was cut off a record stands at the place of the first byte that was.
func TestAddBehindTorn(t *testing.T) {
	for _, n := range []int{0, 1, 4} {
		records := samples()[:n]
		data := bytesOf(t, records...)
		_, r := reeled(t, api.MaxLog, data+"torn", "")
		l, _ := opened(t, r)
		if at := add(t, l, bare(1)); at[0] != len(data)+1 {
			t.Fatalf("the stamp %d; want %d", at[0], len(data)+1)
		}
		records = append(records, bare(1))
		has(t, l, records...)
		safe(t, l, len(data), records...)
		_, list := opened(t, r)
		told(t, list, records)
	}
}

// P7.1: a reel that isn't there, one whose power is away, one whose power goes when it is to be cut off: no log, and nothing changed.
func TestOpenErrors(t *testing.T) {
	closed(t, nil, api.ErrNil)
	closed(t, reel.New(nil, 100), api.ErrDown)
	data := bytesOf(t, bare(1), bare(2))
	for _, tail := range []string{"", "torn"} {
		m, r := reeled(t, 100, data[:40], data[40:]+tail)
		m.Off()
		closed(t, r, api.ErrDown)
		closed(t, r, api.ErrDown)
		m.On()
		counts(t, r, 58+len(tail), 40)
		m.Fuse(0)
		if tail != "" {
			closed(t, r, api.ErrDown)
			if m.IsOn() {
				t.Fatal("what was torn wasn't cut off by a use of the power")
			}
			counts(t, r, 62, 40)
			m.On()
		}
		l, list := opened(t, r)
		told(t, list, []api.Record{bare(1), bare(2)})
		has(t, l, bare(1), bare(2))
	}
}

// P7.1: what one log of a reel holds isn't held by the next one.
func TestOpenHoldsNothing(t *testing.T) {
	_, r, l := fresh(t, 100)
	add(t, l, bare(1))
	want(t, "Hold", l.Hold(71), api.OK)
	other, _ := opened(t, r)
	if l.Room() != 0 || other.Room() != 71 {
		t.Fatalf("Room() = %d and %d; want 0 and 71", l.Room(), other.Room())
	}
}

// P7.2: records of all kinds stand one behind the other on the reel, by their bytes, each with the place of its first one as its stamp; none is safe.
func TestAdd(t *testing.T) {
	m, r, l := fresh(t, api.MaxLog)
	list, expected := samples(), stamps(samples())
	for i, record := range list {
		uses(t, "Add", m, 1, func() {
			if at := add(t, l, record); at[0] != expected[i] {
				t.Fatalf("the stamp %d; want %d", at[0], expected[i])
			}
		})
		data := bytesOf(t, list[:i+1]...)
		if s, e := r.Read(); s != data || e != api.OK {
			t.Fatalf("the reel has %d bytes; want %d", len(s), len(data))
		}
		counts(t, r, len(data), 0)
		has(t, l, list[:i+1]...)
		safe(t, l, 0, list[:i+1]...)
		if l.Room() != api.MaxLog-len(data) {
			t.Fatalf("Room() = %d; want %d", l.Room(), api.MaxLog-len(data))
		}
	}
	_, again := opened(t, r)
	told(t, again, list)
}

// P7.2: a record that can't be is ErrArg, also where there is neither room nor power; nothing is changed, and the power isn't used.
func TestAddArg(t *testing.T) {
	m, r, l := fresh(t, 29)
	try := func() {
		for _, record := range impossible() {
			refused(t, l, record, api.ErrArg)
		}
	}
	uses(t, "Add", m, 0, try)
	counts(t, r, 0, 0)
	add(t, l, bare(1))
	uses(t, "Add", m, 0, try)
	m.Off()
	try()
	m.On()
	counts(t, r, 29, 0)
	has(t, l, bare(1))
}

// P7.2: a record of just as many bytes as Room fits, one of a byte more is ErrFull, whether they are taken or held; that changes nothing, and doesn't use the power, nor ask whether it is there.
func TestAddFits(t *testing.T) {
	for _, there := range []int{0, 29, 40} {
		for _, held := range []int{0, 1, 29, 400} {
			for _, room := range []int{29, 30, 31, 100, 500, 538} {
				m, r, l := fresh(t, there+held+room)
				var list []api.Record
				if there > 0 {
					list = append(list, sized(there))
				}
				add(t, l, list...)
				want(t, "Hold", l.Hold(held), api.OK)
				uses(t, "Add", m, 0, func() { refused(t, l, sized(room+1), api.ErrFull) })
				m.Off()
				refused(t, l, sized(room+1), api.ErrFull)
				refused(t, l, greatest(), api.ErrFull)
				m.On()
				counts(t, r, there, 0)
				has(t, l, list...)
				if l.Room() != room {
					t.Fatalf("Room() = %d; want %d", l.Room(), room)
				}
				list = append(list, sized(room))
				add(t, l, list[len(list)-1])
				has(t, l, list...)
				refused(t, l, bare(1), api.ErrFull)
				if l.Room() != 0 || r.Left() != held {
					t.Fatalf("Room() = %d, Left() = %d; want 0, %d", l.Room(), r.Left(), held)
				}
			}
		}
	}
	for room := range 29 {
		_, _, l := fresh(t, room)
		refused(t, l, bare(1), api.ErrFull)
		has(t, l)
	}
}

// P7.2: the greatest log is filled to its last byte, and read again.
func TestFill(t *testing.T) {
	_, r, l := fresh(t, api.MaxLog)
	var list []api.Record
	for room := api.MaxLog; room > 0; room = l.Room() {
		record := sized(30 + len(list)*7%500)
		if room < 1200 {
			record = sized(min(room, 539))
			if rest := room - 539; rest > 0 && rest < 29 {
				record = sized(500)
			}
		} else if len(list)%5 == 4 && room > 6000 {
			record = greatest()
		}
		add(t, l, record)
		list = append(list, record)
	}
	counts(t, r, api.MaxLog, 0)
	refused(t, l, bare(1), api.ErrFull)
	at := stamps(list)
	want(t, "Force", l.Force(at[len(at)/2]), api.OK)
	if !l.IsSafe(at[0]) || !l.IsSafe(at[len(at)-1]) || l.Last() != at[len(at)-1] {
		t.Fatalf("Last() = %d; want %d, safe", l.Last(), at[len(at)-1])
	}
	for i, stamp := range at {
		if record, ok := l.At(stamp); !ok || !same(record, list[i]) {
			t.Fatalf("At(%d) = %+v, %v", stamp, record, ok)
		}
	}
	again, all := opened(t, r)
	told(t, all, list)
	if again.Room() != 0 {
		t.Fatalf("Room() = %d; want 0", again.Room())
	}
}

// P7.2: while the power is away, or when it goes, a record isn't added: the next one has the stamp that it would have had.
func TestAddDown(t *testing.T) {
	m, r, l := fresh(t, 200)
	add(t, l, bare(1))
	want(t, "Force", l.Force(1), api.OK)
	add(t, l, bare(2))
	m.Fuse(0)
	for range 3 {
		refused(t, l, bare(3), api.ErrDown)
		has(t, l, bare(1), bare(2))
		safe(t, l, 29, bare(1), bare(2))
		counts(t, r, 58, 29)
		if m.IsOn() || l.Room() != 142 {
			t.Fatalf("IsOn() = %v, Room() = %d; want false, 142", m.IsOn(), l.Room())
		}
	}
	m.On()
	if at := add(t, l, bare(4)); at[0] != 59 {
		t.Fatalf("the stamp %d; want 59", at[0])
	}
	has(t, l, bare(1), bare(2), bare(4))
}

// P7.2: bytes of a record in the midst of another one are none of the log's, and no stamp of theirs is.
func TestMidst(t *testing.T) {
	_, r, l := fresh(t, api.MaxLog)
	add(t, l, nest(), bare(1), nest())
	inner := strings.Index(bytesOf(t, nest()), bytesOf(t, bare(77)))
	for _, log := range []*diary.Log{l, func() *diary.Log { log, _ := opened(t, r); return log }()} {
		if record, ok := log.At(inner + 1); ok || log.IsSafe(inner+1) {
			t.Fatalf("At(%d) = %+v", inner+1, record)
		}
		want(t, "Force", log.Force(inner+1), api.ErrArg)
		has(t, log, nest(), bare(1), nest())
	}
}

// P7.3: of each stamp: the record's own has all be safe, by one use of the power; any other one is ErrArg, by none.
func TestForce(t *testing.T) {
	records := []api.Record{bare(1), sized(40), bare(2), sized(31)}
	at := stamps(records)
	all := len(bytesOf(t, records...))
	list := ends()
	for stamp := -2; stamp < all+5; stamp++ {
		list = append(list, stamp)
	}
	for _, stamp := range list {
		m, r, l := fresh(t, 300)
		add(t, l, records...)
		known := false
		for _, own := range at {
			known = known || own == stamp
		}
		if !known {
			uses(t, "Force", m, 0, func() { want(t, "Force", l.Force(stamp), api.ErrArg) })
			counts(t, r, all, 0)
			m.Off()
			want(t, "Force", l.Force(stamp), api.ErrArg)
			continue
		}
		uses(t, "Force", m, 1, func() { want(t, "Force", l.Force(stamp), api.OK) })
		counts(t, r, all, all)
		safe(t, l, all, records...)
		has(t, l, records...)
	}
}

// P7.3: what is safe already is forced without the power, also while that is away; what isn't is ErrDown then, and stays so.
func TestForceSafe(t *testing.T) {
	records := []api.Record{bare(1), sized(50), bare(2)}
	data := bytesOf(t, records...)
	for part := range len(data) + 1 {
		m, r := reeled(t, 300, data[:part], data[part:])
		l, _ := opened(t, r)
		safe(t, l, part, records...)
		m.Fuse(0)
		for i, stamp := range stamps(records) {
			end := stamp - 1 + note.Size(records[i])
			if end > part {
				continue
			}
			want(t, "Force", l.Force(stamp), api.OK)
			if !m.IsOn() {
				t.Fatalf("Force(%d) used the power, though %d bytes are safe", stamp, part)
			}
		}
		m.Off()
		for i, stamp := range stamps(records) {
			expected := api.OK
			if stamp-1+note.Size(records[i]) > part {
				expected = api.ErrDown
			}
			want(t, "Force", l.Force(stamp), expected)
		}
		counts(t, r, len(data), part)
		safe(t, l, part, records...)
		m.On()
		for i, stamp := range stamps(records) {
			if stamp-1+note.Size(records[i]) <= part {
				continue
			}
			m.Fuse(0)
			want(t, "Force", l.Force(stamp), api.ErrDown)
			if m.IsOn() {
				t.Fatalf("Force(%d) didn't use the power, though only %d bytes are safe", stamp, part)
			}
			counts(t, r, len(data), part)
			m.On()
		}
	}
}

// P7.3: a record that is added behind a Force isn't safe, and what is safe ahead of it is forced without it; forced itself it is.
func TestForceAgain(t *testing.T) {
	_, r, l := fresh(t, 1000)
	var list []api.Record
	for i := range 8 {
		list = append(list, sized(29+i))
		before := r.Len()
		at := add(t, l, list[i])
		safe(t, l, before, list...)
		if i > 0 {
			want(t, "Force", l.Force(1), api.OK)
			counts(t, r, before+29+i, before)
		}
		want(t, "Force", l.Force(at[0]), api.OK)
		counts(t, r, r.Len(), r.Len())
		safe(t, l, r.Len(), list...)
	}
}

// P7.4: as many bytes as Room may be held, no more; below 0 none: nothing is changed then. The power plays no part.
func TestHold(t *testing.T) {
	for _, off := range []bool{false, true} {
		for _, size := range []int{0, 1, 29, 100, api.MaxLog} {
			for _, held := range []int{0, 1, size / 2, size} {
				if held > size {
					continue
				}
				m, r, l := fresh(t, size)
				m.Fuse(0)
				if off {
					m.Off()
				}
				want(t, "Hold", l.Hold(held), api.OK)
				room := size - held
				for range 2 {
					for _, n := range []int{-1, -2, -room, -room - 1, -size - 1, math.MinInt, math.MinInt + 1} {
						if n < 0 {
							want(t, "Hold", l.Hold(n), api.ErrArg)
						}
					}
					for _, n := range []int{room + 1, room + 2, size + 1, api.MaxLog + 1, 1 << 32, math.MaxInt - 1, math.MaxInt} {
						want(t, "Hold", l.Hold(n), api.ErrFull)
					}
					want(t, "Hold", l.Hold(0), api.OK)
					if l.Room() != room || r.Left() != size || m.IsOn() == off {
						t.Fatalf("Room() = %d, Left() = %d, IsOn() = %v; want %d, %d", l.Room(), r.Left(), m.IsOn(), room, size)
					}
				}
				want(t, "Hold", l.Hold(room), api.OK)
				want(t, "Hold", l.Hold(1), api.ErrFull)
				want(t, "Hold", l.Hold(0), api.OK)
				if l.Room() != 0 {
					t.Fatalf("Room() = %d; want 0", l.Room())
				}
			}
		}
	}
}

// P7.4: fewer are held by what is freed, none, if that is all or more, as many as were by 0 and by what is below 0.
func TestFree(t *testing.T) {
	const size = 100
	for _, held := range []int{0, 1, 2, 50, 99, 100} {
		for _, n := range append(ends(), 0, 1, 2, held-1, held, held+1, size, size+1) {
			m, _, l := fresh(t, size)
			m.Fuse(0)
			want(t, "Hold", l.Hold(held), api.OK)
			l.Free(n)
			left := held
			if n > 0 {
				left = max(held-n, 0)
			}
			if l.Room() != size-left || !m.IsOn() {
				t.Fatalf("Free(%d) of %d: Room() = %d; want %d", n, held, l.Room(), size-left)
			}
			// What was freed too much isn't there later.
			want(t, "Hold", l.Hold(size-left), api.OK)
			want(t, "Hold", l.Hold(1), api.ErrFull)
			l.Free(size - 1)
			if l.Room() != size-1 {
				t.Fatalf("Room() = %d; want %d", l.Room(), size-1)
			}
		}
	}
}

// P7.4: what is held isn't taken by records, and what records take can't be held.
func TestHoldAndAdd(t *testing.T) {
	_, _, l := fresh(t, 100)
	want(t, "Hold", l.Hold(42), api.OK)
	add(t, l, bare(1), bare(2))
	refused(t, l, bare(3), api.ErrFull)
	want(t, "Hold", l.Hold(1), api.ErrFull)
	l.Free(28)
	refused(t, l, bare(3), api.ErrFull)
	l.Free(1)
	if l.Room() != 29 {
		t.Fatalf("Room() = %d; want 29", l.Room())
	}
	add(t, l, bare(3))
	want(t, "Hold", l.Hold(1), api.ErrFull)
	if l.Room() != 0 {
		t.Fatalf("Room() = %d; want 0", l.Room())
	}
	l.Free(math.MaxInt)
	if l.Room() != 13 {
		t.Fatalf("Room() = %d; want 13", l.Room())
	}
	has(t, l, bare(1), bare(2), bare(3))
}

// P7.2, P7.3, P7.4: while the power is away what is there is told as it was, and room is held and freed.
func TestAway(t *testing.T) {
	m, r, l := fresh(t, 200)
	list := []api.Record{bare(1), sized(50), sized(33)}
	add(t, l, list...)
	m.Off()
	has(t, l, list...)
	safe(t, l, 0, list...)
	want(t, "Hold", l.Hold(9), api.OK)
	l.Free(4)
	if l.Room() != 200-r.Len()-5 {
		t.Fatalf("Room() = %d", l.Room())
	}
	m.On()
	has(t, l, list...)
}

// journey is records of several sizes, and which one is forced behind each (0: none), as a place from 1 on.
func journey() ([]api.Record, []int) {
	return []api.Record{bare(1), sized(35), nest(), bare(2), sized(29), {Kind: api.RecEnd, Deal: 3}, sized(64)}, []int{0, 1, 0, 4, 3, 5, 0}
}

// lost tells where a reel, behind a loss of power, has not what was forced, or others than the first ones of those that were added.
func lost(t testing.TB, what string, r *reel.Reel, added []api.Record, forced int) int {
	t.Helper()
	l, list := opened(t, r)
	if len(list) < forced || len(list) > len(added) {
		t.Fatalf("%s: %d records; want from %d to %d", what, len(list), forced, len(added))
	}
	told(t, list, added[:len(list)])
	has(t, l, added[:len(list)]...)
	if r.Len() != len(bytesOf(t, added[:len(list)]...)) {
		t.Fatalf("%s: the reel has %d bytes, of %d records", what, r.Len(), len(list))
	}
	return len(list)
}

// P7.5: wherever the power goes, and whatever beginning is kept of what isn't safe: what was forced is there, and all ahead of it; what is there are the first ones of those that were added, as many as are whole.
func TestLoss(t *testing.T) {
	records, forces := journey()
	for fuse := range 14 {
		for keep := 0; ; keep++ {
			m, r, l := fresh(t, 2000)
			m.Fuse(fuse)
			added, forced := 0, 0
			at := stamps(records)
			for i, record := range records {
				if _, e := l.Add(record); e == api.OK {
					added++
				}
				if n := forces[i]; n > 0 && l.Force(at[n-1]) == api.OK {
					// What is safe already is forced, without more becoming safe.
					forced = max(forced, n)
				}
			}
			m.Off()
			safeBytes, loose := r.Safe(), r.Len()-r.Safe()
			want(t, "Settle", r.Settle(keep), api.OK)
			m.On()
			what := fmt.Sprint("fuse ", fuse, ", keep ", keep)
			left := lost(t, what, r, records[:added], forced)
			for n := range added {
				whole := at[n]-1+note.Size(records[n]) <= safeBytes+keep%(loose+1)
				if whole != (n < left) {
					t.Fatalf("%s: %d records are left", what, left)
				}
			}
			if keep > loose {
				break
			}
		}
	}
}

// dice is numbers without a plain rule, the same ones for each seed.
type dice uint32

// roll is the next number, below n.
func (d *dice) roll(n int) int {
	*d = *d*1664525 + 1013904223
	return int(uint32(*d)>>8) % n
}

// P7.5: losses one behind the other, also while the log is opened: what was left by one is left by all, and what was added since stands behind it.
func TestLosses(t *testing.T) {
	for seed := range 100 {
		d := dice(seed)
		m := mains.New()
		r := reel.New(m, 1<<14)
		var added []api.Record
		forced := 0
		for life := range 8 {
			m.Fuse(d.roll(2))
			if _, _, e := diary.Open(r); e != api.OK {
				want(t, "Open", e, api.ErrDown)
				want(t, "Settle", r.Settle(d.roll(1000)), api.OK)
			}
			m.Off()
			m.On()
			forced = lost(t, fmt.Sprint("seed ", seed, ", life ", life), r, added, forced)
			added = added[:forced:forced]
			l, _ := opened(t, r)
			m.Fuse(d.roll(12))
			for range 6 {
				record := sized(29 + d.roll(200))
				stamp, e := l.Add(record)
				if e != api.OK {
					want(t, "Add", e, api.ErrDown)
					break
				}
				added = append(added, record)
				if d.roll(3) == 0 && l.Force(stamp) == api.OK {
					forced = len(added)
				}
			}
			m.Off()
			want(t, "Settle", r.Settle(d.roll(2000)), api.OK)
			m.On()
		}
	}
}

// P7.2, P7.3, P7.5: a log that is asked on behind a loss has no record that was lost: nobody is told that it is safe.
func TestLostUnderneath(t *testing.T) {
	records := []api.Record{bare(1), bare(2), sized(40), bare(3)}
	data := bytesOf(t, records...)
	for keep := 29; keep <= len(data); keep++ {
		m, r, l := fresh(t, 300)
		add(t, l, records[0])
		want(t, "Force", l.Force(1), api.OK)
		add(t, l, records[1:]...)
		m.Off()
		want(t, "Settle", r.Settle(keep-29), api.OK)
		m.On()
		var left []api.Record
		for i, stamp := range stamps(records) {
			if stamp-1+note.Size(records[i]) > keep {
				want(t, "Force", l.Force(stamp), api.ErrArg)
				continue
			}
			left = append(left, records[i])
			want(t, "Force", l.Force(stamp), api.OK)
		}
		has(t, l, left...)
		safe(t, l, keep, left...)
		if keep != len(bytesOf(t, left...)) {
			continue
		}
		// What was left ends with a record: the log goes on behind it.
		for i := range 3 {
			left = append(left, sized(41+i))
			add(t, l, left[len(left)-1])
			has(t, l, left...)
		}
		_, list := opened(t, r)
		told(t, list, left)
	}
}

// Rule 5: a log that isn't there at all answers ErrNil, ahead of all else, and zero values.
func TestNil(t *testing.T) {
	var l *diary.Log
	for _, record := range append(impossible(), samples()...) {
		refused(t, l, record, api.ErrNil)
	}
	for _, n := range append(ends(), 0, 1, 29, 30) {
		want(t, "Force", l.Force(n), api.ErrNil)
		want(t, "Hold", l.Hold(n), api.ErrNil)
		l.Free(n)
		if r, ok := l.At(n); ok || !same(r, api.Record{}) || l.IsSafe(n) {
			t.Fatalf("At(%d) = %+v, %v", n, r, ok)
		}
	}
	if l.Room() != 0 || l.Last() != 0 {
		t.Fatalf("Room() = %d, Last() = %d; want 0, 0", l.Room(), l.Last())
	}
}

// P1: no call of a log that Open didn't make panics.
func TestNotMade(t *testing.T) {
	l := &diary.Log{}
	for _, n := range append(ends(), 0, 1, 29) {
		l.Add(bare(1))
		l.Add(api.Record{})
		l.Force(n)
		l.Hold(n)
		l.Free(n)
		l.Room()
		l.At(n)
		l.Last()
		l.IsSafe(n)
	}
}

// spoil writes over each list of a record.
func spoil(r api.Record) {
	for i := range r.Pages {
		r.Pages[i] = api.Image{Page: 9, Data: "spoilt"}
	}
	for i := range r.Open {
		r.Open[i] = api.Open{Deal: -9}
	}
	for i := range r.Dirty {
		r.Dirty[i] = api.Dirty{Page: -9}
	}
}

// Rule 3: a record that is handed in isn't changed and isn't kept; what Open and At answer shares nothing with the log, nor with another answer.
func TestNewMemory(t *testing.T) {
	_, r, l := fresh(t, api.MaxLog)
	given := greatest()
	given.Pages, given.Open, given.Dirty = given.Pages[:3], given.Open[:4], given.Dirty[:5]
	expected := greatest()
	expected.Pages, expected.Open, expected.Dirty = expected.Pages[:3], expected.Open[:4], expected.Dirty[:5]
	add(t, l, given, given)
	given.Pages, given.Open, given.Dirty = given.Pages[:8], given.Open[:16], given.Dirty[:256]
	if !same(given, greatest()) {
		t.Fatal("a record that was handed in was changed")
	}
	spoil(given)
	has(t, l, expected, expected)
	a, _ := l.At(1)
	b, _ := l.At(1)
	spoil(a)
	if !same(b, expected) {
		t.Fatal("two answers share a list")
	}
	has(t, l, expected, expected)
	again, list := opened(t, r)
	spoil(list[0].Record)
	if !same(list[1].Record, expected) {
		t.Fatal("two records of one answer share a list")
	}
	list[0], list[1] = diary.Stamped{}, diary.Stamped{}
	has(t, again, expected, expected)
	has(t, l, expected, expected)
	// What stands behind it doesn't change what was answered.
	b, _ = l.At(1)
	want(t, "Trim", r.Trim(0), api.OK)
	want(t, "Append", r.Append(mixed(1, 9000)), api.OK)
	if !same(b, expected) {
		t.Fatal("an answer changed")
	}
}

// Rule 4: logs of two reels share nothing, on one power or on two.
func TestTwo(t *testing.T) {
	m := mains.New()
	a, _ := opened(t, reel.New(m, 100))
	b, _ := opened(t, reel.New(m, 200))
	_, _, c := fresh(t, 300)
	add(t, a, bare(1), bare(2))
	add(t, b, sized(50))
	add(t, c, bare(4))
	want(t, "Hold", b.Hold(20), api.OK)
	want(t, "Force", a.Force(30), api.OK)
	safe(t, a, 58, bare(1), bare(2))
	safe(t, b, 0, sized(50))
	m.Off()
	refused(t, b, bare(5), api.ErrDown)
	add(t, c, bare(6))
	has(t, a, bare(1), bare(2))
	has(t, b, sized(50))
	has(t, c, bare(4), bare(6))
	if a.Room() != 42 || b.Room() != 130 || c.Room() != 242 {
		t.Fatalf("Room() = %d, %d, %d; want 42, 130, 242", a.Room(), b.Room(), c.Room())
	}
}

// move is a call that changes a log, its reel or its power.
type move struct {
	name string
	n    int
}

// moves is the calls that are tried in each order.
func moves() []move {
	return []move{
		{"Add", 29}, {"Add", 40}, {"Add", 0}, {"Force", 1}, {"Force", 30}, {"Force", 31}, {"Hold", 30}, {"Hold", 72}, {"Free", 20}, {"Open", 0},
		{"Off", 0}, {"On", 0}, {"Fuse", 1}, {"Lose", 0}, {"Lose", 35}, {"Lose", 1000},
	}
}

// given is the record that a move adds: of so many bytes, or one that can't be.
func given(n int) api.Record {
	if n < 29 {
		return api.Record{}
	}
	return sized(n)
}

// twin is a log told in another way: its records, how many bytes the reel has of them, how many of those are safe.
type twin struct {
	power           *mains.Mains
	list            []api.Record
	size, all, safe int
	held            int
}

// room is how many bytes may be taken.
func (w *twin) room() int { return w.size - w.all - w.held }

// end is how many bytes there are up to the record of a stamp; 0, if there is none.
func (w *twin) end(stamp int) int {
	for i, at := range stamps(w.list) {
		if at == stamp {
			return at - 1 + note.Size(w.list[i])
		}
	}
	return 0
}

// open has just those records be there of which all bytes are.
func (w *twin) open() api.Errno {
	if !w.power.IsOn() {
		return api.ErrDown
	}
	n, end := 0, 0
	for n < len(w.list) && end+note.Size(w.list[n]) <= w.all {
		end += note.Size(w.list[n])
		n++
	}
	if end < w.all {
		if e := w.power.Use(); e != api.OK {
			return e
		}
		w.all, w.safe = end, end
	}
	w.list, w.held = w.list[:n:n], 0
	return api.OK
}

// do does one move, and tells what it is answered.
func (w *twin) do(v move) api.Errno {
	switch v.name {
	case "Add":
		size := note.Size(given(v.n))
		if size == 0 {
			return api.ErrArg
		}
		if size > w.room() {
			return api.ErrFull
		}
		if e := w.power.Use(); e != api.OK {
			return e
		}
		w.list, w.all = append(w.list, given(v.n)), w.all+size
	case "Force":
		end := w.end(v.n)
		if end == 0 {
			return api.ErrArg
		}
		if end <= w.safe {
			return api.OK
		}
		if e := w.power.Use(); e != api.OK {
			return e
		}
		w.safe = w.all
	case "Hold":
		if v.n < 0 {
			return api.ErrArg
		}
		if v.n > w.room() {
			return api.ErrFull
		}
		w.held += v.n
	case "Free":
		if v.n > 0 {
			w.held = max(w.held-v.n, 0)
		}
	case "Open":
		return w.open()
	case "Lose":
		w.power.Off()
		w.all = w.safe + int(uint(v.n)%uint(w.all-w.safe+1))
		w.safe = w.all
		w.power.On()
		return w.open()
	}
	return turn(w.power, v)
}

// turn does a move of the power; nothing, if it is none.
func turn(m *mains.Mains, v move) api.Errno {
	switch v.name {
	case "Off":
		m.Off()
	case "On":
		m.On()
	case "Fuse":
		m.Fuse(v.n)
	}
	return api.OK
}

// desk is a log, with the reel and the power that it is on.
type desk struct {
	power *mains.Mains
	reel  *reel.Reel
	log   *diary.Log
}

// open has the reel's log be opened anew; the old one stays, if it can't be.
func (d *desk) open() api.Errno {
	l, _, e := diary.Open(d.reel)
	if e == api.OK {
		d.log = l
	}
	return e
}

// do does one move, and tells what it is answered.
func (d *desk) do(v move) api.Errno {
	switch v.name {
	case "Add":
		_, e := d.log.Add(given(v.n))
		return e
	case "Force":
		return d.log.Force(v.n)
	case "Hold":
		return d.log.Hold(v.n)
	case "Free":
		d.log.Free(v.n)
	case "Open":
		return d.open()
	case "Lose":
		d.power.Off()
		d.reel.Settle(v.n)
		d.power.On()
		return d.open()
	}
	return turn(d.power, v)
}

// judge tells where moves, from the beginning on, come to something else with a log than with its twin.
func judge(t *testing.T, size int, list []move) {
	t.Helper()
	m := mains.New()
	d := &desk{power: m, reel: reel.New(m, size)}
	want(t, "Open", d.open(), api.OK)
	w := &twin{power: mains.New(), size: size}
	for i, v := range list {
		if e, other := d.do(v), w.do(v); e != other {
			t.Fatalf("%v: %d; want %d", list[:i+1], e, other)
		}
	}
	if d.log.Room() != w.room() || d.reel.Len() != w.all || d.reel.Safe() != w.safe || m.IsOn() != w.power.IsOn() {
		t.Fatalf("%v: Room() = %d, of %d bytes %d are safe, IsOn() = %v; want %d, %d, %d, %v", list, d.log.Room(), d.reel.Len(), d.reel.Safe(), m.IsOn(), w.room(), w.all, w.safe, w.power.IsOn())
	}
	last := 0
	for i, stamp := range stamps(w.list) {
		last = stamp
		r, ok := d.log.At(stamp)
		if !ok || !same(r, w.list[i]) || d.log.IsSafe(stamp) != (w.end(stamp) <= w.safe) {
			t.Fatalf("%v: At(%d) = %+v, %v, IsSafe = %v", list, stamp, r, ok, d.log.IsSafe(stamp))
		}
		if r, ok := d.log.At(stamp + 1); ok || d.log.IsSafe(stamp+1) {
			t.Fatalf("%v: At(%d) = %+v", list, stamp+1, r)
		}
	}
	if d.log.Last() != last {
		t.Fatalf("%v: Last() = %d; want %d", list, d.log.Last(), last)
	}
	m.On()
	_, again := opened(t, d.reel)
	told(t, again, w.list)
}

// P7.1 to P7.5: every order of a few calls with a log of room for a hundred bytes and one.
func TestEveryOrder(t *testing.T) {
	var grow func(list []move)
	grow = func(list []move) {
		judge(t, 101, list)
		if len(list) == 5 {
			return
		}
		for _, v := range moves() {
			grow(append(list, v))
		}
	}
	grow(make([]move, 0, 5))
}

// P1, P7.1 to P7.5: many calls, with a log of more room the greater the first byte is.
func FuzzPlay(f *testing.F) {
	f.Add([]byte{})
	f.Add([]byte{40, 0, 29, 0, 29, 1, 1, 0, 40, 7, 30, 0, 29, 2, 20, 3, 30})
	f.Add([]byte{200, 0, 60, 6, 2, 0, 80, 0, 31, 0, 29, 5, 0, 4, 0, 7, 200, 2, 250, 2, 255, 3, 255})
	f.Add([]byte{255, 0, 29, 0, 1, 8, 17, 8, 30, 15, 29, 22, 0, 7, 90, 4, 0, 4, 0})
	f.Fuzz(func(t *testing.T, b []byte) {
		if len(b) == 0 {
			return
		}
		size, b := int(b[0])*10, b[1:]
		var list []move
		for ; len(b) > 1 && len(list) < 200; b = b[2:] {
			v := move{name: []string{"Add", "Force", "Hold", "Free", "Open", "Off", "Fuse", "Lose", "On"}[b[0]%9], n: int(b[1])}
			switch v.name {
			case "Force":
				// Most stamps are those of records of 29 bytes.
				v.n = 1 + v.n/2*29 - int(b[0])/200
			case "Hold", "Free":
				v.n = (v.n - 10) * (1 + int(b[0])/60)
			case "Fuse":
				v.n = v.n%8 - 1
			case "Lose":
				v.n *= 1 + int(b[0])/9
			}
			list = append(list, v)
		}
		judge(t, size, list)
	})
}
