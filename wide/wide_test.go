package wide_test

import (
	"math"
	"strings"
	"testing"

	"gauger/api"
	"gauger/wide"
)

// The ends of all numbers, those of 64 bits and those of 128.
const (
	lowest  = math.MinInt
	highest = math.MaxInt
	full    = math.MaxUint64
	top     = uint64(1) << 63
)

var (
	least    = api.Wide{Hi: lowest}
	greatest = api.Wide{Hi: highest, Lo: full}
	minus    = api.Wide{Hi: -1, Lo: full}
)

// The chapter's example.
func TestExample(t *testing.T) {
	sum := wide.Add(wide.Of(1<<63-1), wide.Of(1))
	if sum != (api.Wide{Hi: 0, Lo: 1 << 63}) {
		t.Fatalf("the sum is %v", sum)
	}
	if n, ok := wide.Int(sum); n != 0 || ok {
		t.Fatalf("Int of it: %d, %v", n, ok)
	}
}

// P15.1: numbers of 64 bits, whose sign goes on in the higher bits.
func TestOf(t *testing.T) {
	for _, c := range []struct {
		n    int
		want api.Wide
	}{
		{0, api.Wide{}},
		{1, api.Wide{Lo: 1}},
		{-1, api.Wide{Hi: -1, Lo: full}},
		{5, api.Wide{Lo: 5}},
		{-5, api.Wide{Hi: -1, Lo: full - 4}},
		{1 << 32, api.Wide{Lo: 1 << 32}},
		{-1 << 32, api.Wide{Hi: -1, Lo: 0xFFFFFFFF00000000}},
		{highest, api.Wide{Lo: top - 1}},
		{lowest, api.Wide{Hi: -1, Lo: top}},
		{lowest + 1, api.Wide{Hi: -1, Lo: top + 1}},
	} {
		if got := wide.Of(c.n); got != c.want {
			t.Fatalf("Of(%d) = %v; want %v", c.n, got, c.want)
		}
	}
	for _, n := range narrow() {
		checkOf(t, n)
	}
}

// P15.1: sums that are carried from the lower bits into the higher ones, and out of the highest one, and such as aren't.
func TestAdd(t *testing.T) {
	for _, c := range []struct{ a, b, want api.Wide }{
		{wide.Of(2), wide.Of(3), wide.Of(5)},
		{wide.Of(2), wide.Of(-3), wide.Of(-1)},
		{wide.Of(-2), wide.Of(-3), wide.Of(-5)},
		{wide.Of(7), wide.Of(-7), api.Wide{}},
		{wide.Of(highest), wide.Of(lowest), wide.Of(-1)},
		{wide.Of(highest), wide.Of(highest), api.Wide{Lo: full - 1}},
		{wide.Of(lowest), wide.Of(lowest), api.Wide{Hi: -1}},
		{api.Wide{Lo: full}, wide.Of(1), api.Wide{Hi: 1}},
		{api.Wide{Lo: full}, api.Wide{Lo: full}, api.Wide{Hi: 1, Lo: full - 1}},
		{api.Wide{Lo: top}, api.Wide{Lo: top}, api.Wide{Hi: 1}},
		{api.Wide{Lo: full - 1}, wide.Of(1), api.Wide{Lo: full}},
		{api.Wide{Hi: 3, Lo: full}, api.Wide{Hi: 4, Lo: 1}, api.Wide{Hi: 8}},
		{api.Wide{Hi: -1}, api.Wide{Lo: full}, wide.Of(-1)},
		{api.Wide{Hi: -1, Lo: 5}, api.Wide{Hi: 1}, wide.Of(5)},
		{api.Wide{Hi: highest}, api.Wide{Hi: lowest}, api.Wide{Hi: -1}},
		{api.Wide{Hi: highest - 1, Lo: full}, wide.Of(1), api.Wide{Hi: highest}},
		{greatest, wide.Of(1), least},
		{greatest, greatest, wide.Of(-2)},
		{greatest, least, wide.Of(-1)},
		{least, wide.Of(-1), greatest},
		{least, least, api.Wide{}},
		{minus, minus, wide.Of(-2)},
		{minus, wide.Of(1), api.Wide{}},
	} {
		if got := wide.Add(c.a, c.b); got != c.want {
			t.Fatalf("Add(%v, %v) = %v; want %v", c.a, c.b, got, c.want)
		}
		if got := wide.Add(c.b, c.a); got != c.want {
			t.Fatalf("Add(%v, %v) = %v; want %v", c.b, c.a, got, c.want)
		}
	}
}

// P15.1: differences that are carried from the lower bits into the higher ones, and out of the highest one, and such as aren't.
func TestSub(t *testing.T) {
	for _, c := range []struct{ a, b, want api.Wide }{
		{wide.Of(5), wide.Of(3), wide.Of(2)},
		{wide.Of(3), wide.Of(5), wide.Of(-2)},
		{wide.Of(-3), wide.Of(-5), wide.Of(2)},
		{wide.Of(0), wide.Of(1), minus},
		{wide.Of(0), minus, wide.Of(1)},
		{wide.Of(lowest), wide.Of(1), api.Wide{Hi: -1, Lo: top - 1}},
		{wide.Of(highest), wide.Of(-1), api.Wide{Lo: top}},
		{wide.Of(highest), wide.Of(lowest), api.Wide{Lo: full}},
		{wide.Of(lowest), wide.Of(highest), api.Wide{Hi: -1, Lo: 1}},
		{api.Wide{Hi: 1}, wide.Of(1), api.Wide{Lo: full}},
		{api.Wide{Hi: 1}, api.Wide{Lo: full}, wide.Of(1)},
		{api.Wide{Hi: -1}, wide.Of(1), api.Wide{Hi: -2, Lo: full}},
		{api.Wide{Hi: 8}, api.Wide{Hi: 4, Lo: 1}, api.Wide{Hi: 3, Lo: full}},
		{api.Wide{Hi: 8, Lo: 9}, api.Wide{Hi: 8, Lo: 9}, api.Wide{}},
		{least, wide.Of(1), greatest},
		{greatest, wide.Of(-1), least},
		{api.Wide{}, least, least},
		{api.Wide{}, greatest, api.Wide{Hi: lowest, Lo: 1}},
		{greatest, least, wide.Of(-1)},
		{least, greatest, wide.Of(1)},
		{minus, greatest, least},
		{least, least, api.Wide{}},
	} {
		if got := wide.Sub(c.a, c.b); got != c.want {
			t.Fatalf("Sub(%v, %v) = %v; want %v", c.a, c.b, got, c.want)
		}
	}
}

// P15.1: products by 0, by numbers above and below it, by the least and the greatest number of 64 bits, and such as leave 128 bits.
func TestTimes(t *testing.T) {
	for _, c := range []struct {
		a    api.Wide
		n    int
		want api.Wide
	}{
		{wide.Of(3), 4, wide.Of(12)},
		{wide.Of(3), -4, wide.Of(-12)},
		{wide.Of(-3), 4, wide.Of(-12)},
		{wide.Of(-3), -4, wide.Of(12)},
		{wide.Of(3), 0, api.Wide{}},
		{minus, 0, api.Wide{}},
		{least, 0, api.Wide{}},
		{greatest, 0, api.Wide{}},
		{api.Wide{}, lowest, api.Wide{}},
		{api.Wide{}, highest, api.Wide{}},
		{api.Wide{Hi: 5, Lo: 6}, 1, api.Wide{Hi: 5, Lo: 6}},
		{api.Wide{Hi: 5, Lo: 6}, -1, api.Wide{Hi: -6, Lo: full - 5}},
		{api.Wide{Lo: top}, 2, api.Wide{Hi: 1}},
		{api.Wide{Lo: full}, 2, api.Wide{Hi: 1, Lo: full - 1}},
		{api.Wide{Lo: full}, -1, api.Wide{Hi: -1, Lo: 1}},
		{api.Wide{Lo: full}, -2, api.Wide{Hi: -2, Lo: 2}},
		{api.Wide{Hi: 1}, -1, api.Wide{Hi: -1}},
		{wide.Of(1), lowest, wide.Of(lowest)},
		{wide.Of(1), highest, wide.Of(highest)},
		{wide.Of(-1), lowest, api.Wide{Lo: top}},
		{wide.Of(-1), highest, wide.Of(-highest)},
		{wide.Of(lowest), lowest, api.Wide{Hi: 1 << 62}},
		{wide.Of(highest), lowest, api.Wide{Hi: -1 << 62, Lo: top}},
		{wide.Of(lowest), highest, api.Wide{Hi: -1 << 62, Lo: top}},
		{wide.Of(highest), highest, api.Wide{Hi: 1<<62 - 1, Lo: 1}},
		{api.Wide{Lo: full}, highest, api.Wide{Hi: highest - 1, Lo: top + 1}},
		{api.Wide{Lo: full}, lowest, api.Wide{Hi: lowest, Lo: top}},
		{api.Wide{Hi: 1}, highest, api.Wide{Hi: highest}},
		{api.Wide{Hi: 1}, lowest, least},
		{api.Wide{Hi: -1}, highest, api.Wide{Hi: -highest}},
		// From here on they leave 128 bits.
		{api.Wide{Hi: -1}, lowest, least},
		{api.Wide{Hi: 1 << 62}, 2, least},
		{api.Wide{Hi: 1 << 62}, 4, api.Wide{}},
		{api.Wide{Hi: 2, Lo: 7}, lowest, api.Wide{Hi: -4, Lo: top}},
		{greatest, 2, wide.Of(-2)},
		{greatest, -1, api.Wide{Hi: lowest, Lo: 1}},
		{greatest, highest, wide.Add(least, wide.Of(-highest))},
		{greatest, lowest, api.Wide{Lo: top}},
		{least, -1, least},
		{least, 2, api.Wide{}},
		{least, 3, least},
		{least, lowest, api.Wide{}},
		{least, highest, least},
	} {
		if got := wide.Times(c.a, c.n); got != c.want {
			t.Fatalf("Times(%v, %d) = %v; want %v", c.a, c.n, got, c.want)
		}
	}
}

// P15.1: as many a as n tells, counted one by one, and as many less than nothing.
func TestTimesCounted(t *testing.T) {
	for _, a := range append(ends(), bitwise()...) {
		var up, down api.Wide
		for n := range 40 {
			if got := wide.Times(a, n); got != up {
				t.Fatalf("Times(%v, %d) = %v; want %v", a, n, got, up)
			}
			if got := wide.Times(a, -n); got != down {
				t.Fatalf("Times(%v, %d) = %v; want %v", a, -n, got, down)
			}
			up, down = wide.Add(up, a), wide.Sub(down, a)
		}
	}
}

// rising is numbers, each above the one ahead of it: in the higher bits alone, in the lower ones alone, in both, in the sign.
func rising() []api.Wide {
	return []api.Wide{
		least,
		{Hi: lowest, Lo: 1},
		{Hi: lowest, Lo: top - 1},
		{Hi: lowest, Lo: top},
		{Hi: lowest, Lo: full},
		{Hi: lowest + 1},
		{Hi: lowest + 1, Lo: 5},
		{Hi: -2, Lo: 5},
		{Hi: -2, Lo: full},
		{Hi: -1},
		{Hi: -1, Lo: 5},
		{Hi: -1, Lo: top - 1},
		{Hi: -1, Lo: top},
		{Hi: -1, Lo: top + 1},
		minus,
		{},
		{Lo: 1},
		{Lo: 5},
		{Lo: top - 1},
		{Lo: top},
		{Lo: full},
		{Hi: 1},
		{Hi: 1, Lo: 5},
		{Hi: 1, Lo: full},
		{Hi: 2},
		{Hi: highest, Lo: 0},
		{Hi: highest, Lo: top - 1},
		{Hi: highest, Lo: top},
		greatest,
	}
}

// P15.1: which one is less, of all pairs, both ways round.
func TestCompare(t *testing.T) {
	for i, a := range rising() {
		for k, b := range rising() {
			want := 0
			if i < k {
				want = -1
			}
			if i > k {
				want = 1
			}
			if got := wide.Compare(a, b); got != want {
				t.Fatalf("Compare(%v, %v) = %d; want %d", a, b, got, want)
			}
		}
	}
}

// P15.1: just those from the least to the greatest number of 64 bits are such; the next ones beyond, and those that have the lower bits of such a one alone, are none.
func TestInt(t *testing.T) {
	for _, n := range []int{0, 1, -1, 7, -7, highest, highest - 1, lowest, lowest + 1} {
		if got, ok := wide.Int(wide.Of(n)); got != n || !ok {
			t.Fatalf("Int of %d = %d, %v", n, got, ok)
		}
	}
	for _, a := range []api.Wide{
		wide.Add(wide.Of(highest), wide.Of(1)),
		wide.Sub(wide.Of(lowest), wide.Of(1)),
		{Lo: top},
		{Lo: top + 1},
		{Lo: full},
		{Hi: -1},
		{Hi: -1, Lo: 5},
		{Hi: -1, Lo: top - 1},
		{Hi: 1},
		{Hi: 1, Lo: 5},
		{Hi: 1, Lo: full},
		{Hi: -2, Lo: full},
		{Hi: -2, Lo: top},
		{Hi: 1 << 32, Lo: 5},
		{Hi: lowest, Lo: 5},
		{Hi: lowest, Lo: full},
		{Hi: highest, Lo: 5},
		least,
		greatest,
	} {
		if got, ok := wide.Int(a); got != 0 || ok {
			t.Fatalf("Int(%v) = %d, %v; want 0, false", a, got, ok)
		}
	}
}

// P15.2: sixteen bytes, the highest first, that are read as what they are the code of.
func TestCode(t *testing.T) {
	zeros, ones := strings.Repeat("\x00", 15), strings.Repeat("\xff", 15)
	for _, c := range []struct {
		a    api.Wide
		want string
	}{
		{api.Wide{}, zeros + "\x00"},
		{wide.Of(1), zeros + "\x01"},
		{wide.Of(255), zeros + "\xff"},
		{wide.Of(256), zeros[1:] + "\x01\x00"},
		{wide.Of(-1), ones + "\xff"},
		{wide.Of(-2), ones + "\xfe"},
		{wide.Of(-256), ones + "\x00"},
		{wide.Of(highest), zeros[7:] + "\x7f" + ones[8:]},
		{wide.Of(lowest), ones[7:] + "\x80" + zeros[8:]},
		{api.Wide{Lo: top}, zeros[7:] + "\x80" + zeros[8:]},
		{api.Wide{Hi: 1}, zeros[8:] + "\x01" + zeros[7:]},
		{api.Wide{Hi: -2, Lo: 3}, ones[8:] + "\xfe" + zeros[8:] + "\x03"},
		{api.Wide{Hi: 0x0102030405060708, Lo: 0x090A0B0C0D0E0F10}, "\x01\x02\x03\x04\x05\x06\x07\x08\x09\x0a\x0b\x0c\x0d\x0e\x0f\x10"},
		{api.Wide{Hi: -0x0102030405060708, Lo: 0xF0E1D2C3B4A59687}, "\xfe\xfd\xfc\xfb\xfa\xf9\xf8\xf8\xf0\xe1\xd2\xc3\xb4\xa5\x96\x87"},
		{least, "\x80" + zeros},
		{greatest, "\x7f" + ones},
	} {
		if got := wide.Code(c.a); got != c.want {
			t.Fatalf("Code(%v) = %q; want %q", c.a, got, c.want)
		}
		if got, e := wide.Read(c.want); got != c.a || e != api.OK {
			t.Fatalf("Read(%q) = %v, %v; want %v", c.want, got, e, c.a)
		}
		checkRead(t, c.want)
	}
}

// P15.2: any sixteen bytes are a number's; each byte plays a part, at its place.
func TestReadAny(t *testing.T) {
	for at := range 16 {
		for b := range 256 {
			for _, rest := range []string{"\x00", "\xff", "\x80", "a"} {
				code := []byte(strings.Repeat(rest, 16))
				code[at] = byte(b)
				checkRead(t, string(code))
			}
		}
	}
}

// P15.2: fewer than sixteen bytes, and more, are no number's.
func TestReadWrong(t *testing.T) {
	code := wide.Code(api.Wide{Hi: 0x0102030405060708, Lo: 0x090A0B0C0D0E0F10})
	wrong := []string{"", "abc", code[:8], code[:15], code[1:], code + "\x00", "\x00" + code, code + code, strings.Repeat(code, 1<<12)}
	for n := range 300 {
		if n != 16 {
			wrong = append(wrong, strings.Repeat("\x00", n), strings.Repeat("\xff", n))
		}
	}
	for _, s := range wrong {
		checkRead(t, s)
		if a, e := wide.Read(s); a != (api.Wide{}) || e != api.ErrForm {
			t.Fatalf("Read of %d bytes: %v, %v; want ErrForm alone", len(s), a, e)
		}
	}
}

// P15.1 to P15.3: all that is told of one number, of two, of one and how many of it, is what numbers without bounds come to.
func TestWhole(t *testing.T) {
	small, wides := narrow(), ends()
	for _, a := range append(bitwise(), wides...) {
		checkOne(t, a)
		for _, n := range small {
			checkTimes(t, a, n)
		}
		for _, b := range wides {
			checkTwo(t, a, b)
			checkTwo(t, b, a)
		}
	}
	for _, a := range small {
		for _, b := range small {
			checkTwo(t, wide.Of(a), wide.Of(b))
			checkTimes(t, wide.Of(a), b)
		}
	}
}

// P15.1 to P15.3: numbers among which there is no plain rule, of all lengths.
func TestMixed(t *testing.T) {
	next := mixer()
	wideOf := func() api.Wide {
		hi, lo, down := int(next()), next(), next()%128
		if down < 64 {
			return api.Wide{Hi: hi >> down, Lo: lo}
		}
		return wide.Of(hi >> (down - 64))
	}
	for range 20000 {
		a, b, n := wideOf(), wideOf(), int(next())
		n >>= next() % 64
		checkOne(t, a)
		checkTwo(t, a, b)
		checkTwo(t, a, a)
		checkTwo(t, a, api.Wide{Hi: a.Hi, Lo: b.Lo})
		checkTwo(t, a, api.Wide{Hi: b.Hi, Lo: a.Lo})
		checkTimes(t, a, n)
		checkOf(t, n)
	}
}

// P15.3: sums come to the same in any order, what was added and taken away leaves what was, and what is taken twice is as what is added twice, beyond 128 bits too.
func TestLaws(t *testing.T) {
	next := mixer()
	for _, a := range append(ends(), bitwise()...) {
		for _, b := range ends() {
			c, n := api.Wide{Hi: int(next()), Lo: next()}, int(next())
			if got := wide.Sub(wide.Add(a, b), b); got != a {
				t.Fatalf("%v more and less of %v: %v", b, a, got)
			}
			if got, want := wide.Add(wide.Add(a, b), c), wide.Add(a, wide.Add(b, c)); got != want {
				t.Fatalf("%v, %v and %v: %v, or %v", a, b, c, got, want)
			}
			if got, want := wide.Sub(a, b), wide.Add(a, wide.Times(b, -1)); got != want {
				t.Fatalf("%v less %v: %v, or %v", a, b, got, want)
			}
			if got, want := wide.Times(wide.Add(a, b), n), wide.Add(wide.Times(a, n), wide.Times(b, n)); got != want {
				t.Fatalf("%v and %v, %d times: %v, or %v", a, b, n, got, want)
			}
		}
	}
}

// P15.1, P15.2: numbers may be any; what isn't within 128 bits is told modulo 2^128, as by numbers without bounds.
func FuzzReckon(f *testing.F) {
	for _, a := range rising() {
		for _, b := range rising() {
			f.Add(a.Hi, a.Lo, b.Hi, b.Lo, b.Hi)
		}
	}
	f.Fuzz(func(t *testing.T, ahi int, alo uint64, bhi int, blo uint64, n int) {
		a, b := api.Wide{Hi: ahi, Lo: alo}, api.Wide{Hi: bhi, Lo: blo}
		checkOne(t, a)
		checkTwo(t, a, b)
		checkTimes(t, a, n)
		checkOf(t, n)
	})
}

// P15.2: bytes may be any: just sixteen are a number's, and are its code.
func FuzzRead(f *testing.F) {
	for _, a := range rising() {
		code := wide.Code(a)
		f.Add(code)
		f.Add(code[1:])
		f.Add(code + "\x00")
	}
	f.Fuzz(func(t *testing.T, s string) { checkRead(t, s) })
}
