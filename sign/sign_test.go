package sign_test

import (
	"encoding/binary"
	"math"
	"slices"
	"strings"
	"testing"

	"gauger/api"
	"gauger/sign"
)

func num(n int) api.Value { return api.Value{Kind: api.Int, N: n} }

func text(s string) api.Value { return api.Value{Kind: api.Text, S: s} }

// ordered is values that can be, each one above those ahead of it.
func ordered() []api.Value {
	return []api.Value{
		num(math.MinInt64), num(math.MinInt64 + 1), num(-1 << 40), num(-257), num(-256), num(-255), num(-2), num(-1),
		num(0), num(1), num(2), num(127), num(128), num(255), num(256), num(257), num(1 << 32), num(math.MaxInt64 - 1), num(math.MaxInt64),
		text(""), text("\x00"), text("\x00\x00"), text("\x00\x00\x00\x00\x00\x00\x00"), text("\x00\x00\x00\x00\x00\x00\x01"), text("\x00\x01"), text("\x00a"),
		text("\x01"), text("\x07"), text("A"), text("a"), text("a\x00"), text("a\x00\x00"), text("a\x00b"), text("a\x01"), text("aa"), text("ab"),
		text("abcdef"), text("abcdef\x00"), text("abcdefg"), text("abcdefh"), text("b"), text("\x7f"), text("\x80"), text("é"),
		text("\xff"), text("\xff\x00"), text("\xff\xff\xff\xff\xff\xff"), text("\xff\xff\xff\xff\xff\xff\xff"),
	}
}

// impossible is values that can't be.
func impossible() []api.Value {
	return []api.Value{
		{}, {Kind: -1}, {Kind: 3}, {Kind: 257}, {Kind: 258}, {Kind: math.MinInt64}, {Kind: math.MaxInt64}, {Kind: 0, N: 1}, {Kind: 0, S: "a"},
		{Kind: api.Int, S: "a"}, {Kind: api.Int, N: 5, S: "\x00"}, {Kind: api.Int, N: math.MinInt64, S: "12345678"},
		{Kind: api.Text, N: 1}, {Kind: api.Text, N: -1, S: "a"}, {Kind: api.Text, N: math.MaxInt64, S: "abcdefg"},
		text("abcdefgh"), text("\x00\x00\x00\x00\x00\x00\x00\x00"), text(strings.Repeat("a", 256)), text(strings.Repeat("a", 1<<20)),
	}
}

// expected is the code of a value that can be, built as the chapter tells it.
func expected(v api.Value) string {
	if v.Kind == api.Int {
		return "\x01" + string(binary.BigEndian.AppendUint64(nil, uint64(v.N)^1<<63))
	}
	return "\x02" + v.S + strings.Repeat("\x00", 7-len(v.S)) + string([]byte{byte(len(v.S))})
}

// isCode tells whether bytes are a value's code, as the chapter tells it.
func isCode(s string) bool {
	if len(s) != 9 || s[0] != 1 && s[0] != 2 {
		return false
	}
	if s[0] == 1 {
		return true
	}
	n := int(s[8])
	return n <= 7 && s[1+n:8] == strings.Repeat("\x00", 7-n)
}

// P1.1: what can be, and what can't.
func TestGood(t *testing.T) {
	for _, v := range ordered() {
		if !sign.Good(v) {
			t.Fatalf("Good(%#v) is false", v)
		}
	}
	for _, v := range impossible() {
		if sign.Good(v) {
			t.Fatalf("Good of Kind %d, N %d and %d bytes is true", v.Kind, v.N, len(v.S))
		}
	}
	for n := range 12 {
		if sign.Good(text(strings.Repeat("x", n))) != (n <= 7) {
			t.Fatalf("Good of a text of %d bytes is %v", n, n > 7)
		}
	}
}

// P1.1: codes that are written out.
func TestCodeByHand(t *testing.T) {
	for _, c := range []struct {
		v    api.Value
		code string
	}{
		{num(0), "\x01\x80\x00\x00\x00\x00\x00\x00\x00"},
		{num(1), "\x01\x80\x00\x00\x00\x00\x00\x00\x01"},
		{num(-1), "\x01\x7f\xff\xff\xff\xff\xff\xff\xff"},
		{num(0x0102030405060708), "\x01\x81\x02\x03\x04\x05\x06\x07\x08"},
		{num(math.MinInt64), "\x01\x00\x00\x00\x00\x00\x00\x00\x00"},
		{num(math.MaxInt64), "\x01\xff\xff\xff\xff\xff\xff\xff\xff"},
		{text(""), "\x02\x00\x00\x00\x00\x00\x00\x00\x00"},
		{text("a"), "\x02a\x00\x00\x00\x00\x00\x00\x01"},
		{text("\x00"), "\x02\x00\x00\x00\x00\x00\x00\x00\x01"},
		{text("a\x00b"), "\x02a\x00b\x00\x00\x00\x00\x03"},
		{text("abcdefg"), "\x02abcdefg\x07"},
		{text("\x00\x00\x00\x00\x00\x00\x00"), "\x02\x00\x00\x00\x00\x00\x00\x00\x07"},
	} {
		if s, e := sign.Code(c.v); s != c.code || e != api.OK {
			t.Fatalf("Code(%#v) = %q, %v; want %q", c.v, s, e, c.code)
		}
		if v, e := sign.Read(c.code); v != c.v || e != api.OK {
			t.Fatalf("Read(%q) = %#v, %v; want %#v", c.code, v, e, c.v)
		}
	}
}

// P1.1: a value that can't be has no code, and stands nowhere.
func TestImpossible(t *testing.T) {
	for _, v := range impossible() {
		if s, e := sign.Code(v); s != "" || e != api.ErrArg {
			t.Fatalf("Code(Kind %d, N %d) = %q, %v; want ErrArg", v.Kind, v.N, s, e)
		}
		for _, w := range slices.Concat(ordered(), impossible()) {
			if a, b := sign.Compare(v, w), sign.Compare(w, v); a != 0 || b != 0 {
				t.Fatalf("Compare of Kind %d, N %d and Kind %d, N %d = %d, %d; want 0, 0", v.Kind, v.N, w.Kind, w.N, a, b)
			}
		}
	}
}

// P1.1, P1.3: values stand in one order, by Compare and by the bytes of their codes.
func TestOrder(t *testing.T) {
	list := ordered()
	for i, a := range list {
		for k, b := range list {
			want := 0
			if i < k {
				want = -1
			} else if i > k {
				want = 1
			}
			if got := sign.Compare(a, b); got != want {
				t.Fatalf("Compare(%#v, %#v) = %d; want %d", a, b, got, want)
			}
			x, _ := sign.Code(a)
			y, _ := sign.Code(b)
			if got := strings.Compare(x, y); got != want {
				t.Fatalf("the codes of %#v and %#v stand as %d; want %d", a, b, got, want)
			}
		}
	}
}

// P1.3: what was coded is read as it was; the powers of two and what stands beside them are the edges of the bytes.
func TestRoundTrip(t *testing.T) {
	list := ordered()
	for bit := range 64 {
		n := int(uint64(1) << bit)
		list = append(list, num(n-1), num(n), num(n+1), num(-n))
	}
	for b := range 256 {
		for n := range 8 {
			list = append(list, text(strings.Repeat(string([]byte{byte(b)}), n)))
		}
	}
	for _, v := range list {
		s, e := sign.Code(v)
		if s != expected(v) || e != api.OK {
			t.Fatalf("Code(%#v) = %q, %v; want %q", v, s, e, expected(v))
		}
		if w, e := sign.Read(s); w != v || e != api.OK {
			t.Fatalf("Read(%q) = %#v, %v; want %#v", s, w, e, v)
		}
	}
}

// P1.1, P1.3: no other bytes are read. Each code has each of its bytes turned into each other one, and other lengths.
func TestReadWrong(t *testing.T) {
	for _, v := range ordered() {
		code := expected(v)
		for at := range len(code) {
			for b := range 256 {
				s := code[:at] + string([]byte{byte(b)}) + code[at+1:]
				checkRead(t, s)
			}
			checkRead(t, code[:at])
			checkRead(t, code[at+1:])
		}
		checkRead(t, code+"\x00")
		checkRead(t, "\x00"+code)
		checkRead(t, code+code)
	}
	for _, s := range []string{"", "\x01", "\x02", "a", strings.Repeat("\x00", 9), strings.Repeat("\xff", 9), "\x02\x00\x00\x00\x00\x00\x00\x00\x08", "\x02abcdefg\xff", strings.Repeat("\x01", 1<<16)} {
		checkRead(t, s)
	}
}

// checkRead tells where bytes are read that are no code, or a code isn't.
func checkRead(t *testing.T, s string) {
	t.Helper()
	v, e := sign.Read(s)
	if !isCode(s) {
		if v != (api.Value{}) || e != api.ErrForm {
			t.Fatalf("Read(%q) = %#v, %v; want ErrForm", s, v, e)
		}
		return
	}
	if e != api.OK || !sign.Good(v) || expected(v) != s {
		t.Fatalf("Read(%q) = %#v, %v", s, v, e)
	}
}

// P1.2: rows of nothing, of each length up to four values, and none of five.
func TestRow(t *testing.T) {
	list := []api.Value{num(5), text("ab"), num(math.MinInt64), text("a\x00\x00\x00\x00\x00\x00"), num(0), text(""), num(math.MaxInt64)}
	for from := range list {
		for to := from; to <= len(list); to++ {
			row := list[from:to]
			s, e := sign.Row(row...)
			if len(row) > 4 {
				if s != "" || e != api.ErrArg {
					t.Fatalf("Row of %d values = %q, %v; want ErrArg", len(row), s, e)
				}
				continue
			}
			want := ""
			for _, v := range row {
				want += expected(v)
			}
			if s != want || e != api.OK {
				t.Fatalf("Row(%#v) = %q, %v; want %q", row, s, e, want)
			}
			if l, e := sign.ReadRow(s); !slices.Equal(l, row) || e != api.OK {
				t.Fatalf("ReadRow(%q) = %#v, %v; want %#v", s, l, e, row)
			}
		}
	}
	if s, e := sign.Row(make([]api.Value, 1000)...); s != "" || e != api.ErrArg {
		t.Fatalf("Row of 1000 values that can't be = %q, %v; want ErrArg", s, e)
	}
}

// P1.2: a row with a value that can't be, in each place.
func TestRowWrong(t *testing.T) {
	for _, v := range impossible() {
		for n := 1; n <= 5; n++ {
			for at := range n {
				row := make([]api.Value, n)
				for i := range row {
					row[i] = num(i)
				}
				row[at] = v
				if s, e := sign.Row(row...); s != "" || e != api.ErrArg {
					t.Fatalf("Row with Kind %d, N %d at %d of %d = %q, %v; want ErrArg", v.Kind, v.N, at, n, s, e)
				}
			}
		}
	}
}

// P1.2, P1.3: no bytes but a row's are read as one: each cut, a fifth value, each byte turned.
func TestReadRowWrong(t *testing.T) {
	codes := []string{expected(num(1)), expected(text("ab")), expected(text("")), expected(num(-1))}
	row := strings.Join(codes, "")
	for n := range len(row) {
		checkReadRow(t, row[:n])
		checkReadRow(t, row[n:])
		for b := range 256 {
			checkReadRow(t, row[:n]+string([]byte{byte(b)})+row[n+1:])
		}
	}
	for _, s := range []string{row + "\x00", row + codes[0], row + codes[0][:8], row + row, strings.Repeat(codes[1], 1<<12), "a", strings.Repeat("\x00", 36), strings.Repeat("\xff", 18)} {
		checkReadRow(t, s)
	}
}

// checkReadRow tells where bytes are read that are no row, or a row isn't.
func checkReadRow(t *testing.T, s string) {
	t.Helper()
	l, e := sign.ReadRow(s)
	if !isRow(s) {
		if len(l) != 0 || e != api.ErrForm {
			t.Fatalf("ReadRow(%q) = %#v, %v; want ErrForm", s, l, e)
		}
		return
	}
	back := ""
	for _, v := range l {
		back += expected(v)
	}
	if e != api.OK || back != s {
		t.Fatalf("ReadRow(%q) = %#v, %v", s, l, e)
	}
}

// isRow tells whether bytes are at most four codes.
func isRow(s string) bool {
	if len(s) > 36 {
		return false
	}
	for ; len(s) >= 9; s = s[9:] {
		if !isCode(s[:9]) {
			return false
		}
	}
	return s == ""
}

// Rule 3: lists that are handed in stay as they are, their spare room too, and answers share nothing.
func TestLists(t *testing.T) {
	list := []api.Value{num(1), text("ab"), num(7), num(8)}
	s, _ := sign.Row(list[:2]...)
	if want := []api.Value{num(1), text("ab"), num(7), num(8)}; !slices.Equal(list, want) {
		t.Fatalf("Row turned its list into %#v", list)
	}
	list[0] = num(9)
	a, _ := sign.ReadRow(s)
	a[0] = num(3)
	if b, e := sign.ReadRow(s); e != api.OK || !slices.Equal(b, []api.Value{num(1), text("ab")}) {
		t.Fatalf("ReadRow(%q) = %#v, %v", s, b, e)
	}
}

// P1: bytes may be any: none panics, and what is read is what is coded.
func FuzzRead(f *testing.F) {
	for _, v := range ordered() {
		f.Add(expected(v))
	}
	f.Fuzz(func(t *testing.T, s string) {
		checkRead(t, s)
		checkReadRow(t, s)
	})
}

// P1: values may be any: just those that can be have a code, and it is read as it was.
func FuzzCode(f *testing.F) {
	for _, v := range slices.Concat(ordered(), impossible()) {
		f.Add(v.Kind, v.N, v.S)
	}
	f.Fuzz(func(t *testing.T, kind, n int, s string) {
		v := api.Value{Kind: kind, N: n, S: s}
		can := kind == api.Int && s == "" || kind == api.Text && n == 0 && len(s) <= 7
		code, e := sign.Code(v)
		if sign.Good(v) != can || (e == api.OK) != can {
			t.Fatalf("Good and Code of %#v: %v, %v", v, sign.Good(v), e)
		}
		if can && code != expected(v) {
			t.Fatalf("Code(%#v) = %q; want %q", v, code, expected(v))
		}
	})
}
