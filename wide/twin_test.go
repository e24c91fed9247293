package wide_test

import (
	"math"
	"math/big"
	"testing"

	"gauger/api"
	"gauger/wide"
)

// power is 2 so many times by itself, as a number without bounds.
func power(n uint) *big.Int { return new(big.Int).Lsh(big.NewInt(1), n) }

// The bounds of numbers of 64 and of 128 bits; nothing changes them.
var (
	turn64 = power(64)
	half   = power(127)
	turn   = power(128)
	bottom = new(big.Int).Neg(half)
)

// whole is what a number is: Hi times 2^64, and Lo.
func whole(a api.Wide) *big.Int {
	n := new(big.Int).Mul(big.NewInt(int64(a.Hi)), turn64)
	return n.Add(n, new(big.Int).SetUint64(a.Lo))
}

// folded is a number without bounds modulo 2^128, from -2^127 on.
func folded(n *big.Int) *big.Int {
	up := new(big.Int).Add(n, half)
	return up.Sub(up.Mod(up, turn), half)
}

// keeps tells whether a number without bounds is one of 128 bits with a sign.
func keeps(n *big.Int) bool {
	return n.Cmp(bottom) >= 0 && n.Cmp(half) < 0
}

// same holds what was reckoned against the number without bounds that it should be: just that, if it is of 128 bits, else modulo 2^128.
func same(t testing.TB, what string, got api.Wide, exact *big.Int) {
	t.Helper()
	want := exact
	if !keeps(exact) {
		want = folded(exact)
	}
	if whole(got).Cmp(want) != 0 {
		t.Fatalf("%s = %v; want %v, which is %v", what, got, exact, want)
	}
}

// checkOf holds all that is told of one number of 64 bits against numbers without bounds.
func checkOf(t testing.TB, n int) {
	t.Helper()
	a := wide.Of(n)
	same(t, "Of", a, big.NewInt(int64(n)))
	if got, ok := wide.Int(a); got != n || !ok {
		t.Fatalf("Int(Of(%d)) = %d, %v", n, got, ok)
	}
}

// checkOne holds all that is told of one number against the number without bounds.
func checkOne(t testing.TB, a api.Wide) {
	t.Helper()
	n, ok := wide.Int(a)
	if ok != whole(a).IsInt64() || ok && int64(n) != whole(a).Int64() || !ok && n != 0 {
		t.Fatalf("Int(%v) = %d, %v; it is %v", a, n, ok, whole(a))
	}
	bare := new(big.Int).Mod(whole(a), turn)
	want := string(bare.FillBytes(make([]byte, 16)))
	if got := wide.Code(a); got != want {
		t.Fatalf("Code(%v) = %q; want %q", a, got, want)
	}
	if got, e := wide.Read(want); got != a || e != api.OK {
		t.Fatalf("Read(%q) = %v, %v; want %v", want, got, e, a)
	}
}

// checkTwo holds sums, differences and the order of two numbers against those without bounds.
func checkTwo(t testing.TB, a, b api.Wide) {
	t.Helper()
	same(t, "Add", wide.Add(a, b), new(big.Int).Add(whole(a), whole(b)))
	same(t, "Sub", wide.Sub(a, b), new(big.Int).Sub(whole(a), whole(b)))
	if got, want := wide.Compare(a, b), whole(a).Cmp(whole(b)); got != want {
		t.Fatalf("Compare(%v, %v) = %d; want %d", a, b, got, want)
	}
}

// checkTimes holds a product against that without bounds.
func checkTimes(t testing.TB, a api.Wide, n int) {
	t.Helper()
	same(t, "Times", wide.Times(a, n), new(big.Int).Mul(whole(a), big.NewInt(int64(n))))
}

// checkRead holds what bytes are read as against the number without bounds that they are.
func checkRead(t testing.TB, s string) {
	t.Helper()
	a, e := wide.Read(s)
	if len(s) != 16 {
		if a != (api.Wide{}) || e != api.ErrForm {
			t.Fatalf("Read(%q) = %v, %v; want ErrForm alone", s, a, e)
		}
		return
	}
	if e != api.OK || whole(a).Cmp(folded(new(big.Int).SetBytes([]byte(s)))) != 0 {
		t.Fatalf("Read(%q) = %v, %v", s, a, e)
	}
	if got := wide.Code(a); got != s {
		t.Fatalf("Code of what %q was read as: %q", s, got)
	}
}

// narrow is numbers of 64 bits: those near 0 and the ends, each that is one bit, or all bits below one, and the next ones beside, mixed ones.
func narrow() []int {
	list := []int{0, 3, -3, 10, -10, math.MaxInt, math.MaxInt - 1, math.MinInt, math.MinInt + 1}
	for shift := range 63 {
		list = append(list, 1<<shift, 1<<shift-1, 1<<shift+1, -1<<shift, -1<<shift-1, -1<<shift+1)
	}
	next := mixer()
	for i := range 64 {
		list = append(list, int(next()), int(next())>>i)
	}
	return list
}

// ends is numbers whose Hi and Lo are each near 0, near an end of 64 bits, in its middle, or mixed, all with all.
func ends() []api.Wide {
	var list []api.Wide
	mixed := mixer()
	for _, hi := range []int{math.MinInt, math.MinInt + 1, -1 << 32, -2, -1, 0, 1, 2, 1 << 32, math.MaxInt - 1, math.MaxInt, int(mixed())} {
		for _, lo := range []uint64{0, 1, 2, 1<<32 - 1, 1 << 32, 1<<63 - 1, 1 << 63, 1<<63 + 1, 1<<64 - 2, 1<<64 - 1, mixed()} {
			list = append(list, api.Wide{Hi: hi, Lo: lo})
		}
	}
	return list
}

// bitwise is numbers that have one bit, all but it, all below it, or all from it on.
func bitwise() []api.Wide {
	var list []api.Wide
	for i := range 64 {
		for _, bit := range []uint64{1 << i, ^uint64(1 << i), 1<<i - 1, -(1 << i)} {
			list = append(list, api.Wide{Lo: bit}, api.Wide{Hi: -1, Lo: bit}, api.Wide{Hi: int(bit)}, api.Wide{Hi: int(bit), Lo: 1<<64 - 1})
		}
	}
	return list
}

// mixer answers, each time, 64 bits among which there is no plain rule, the same ones for each mixer.
func mixer() func() uint64 {
	x := uint64(15)
	return func() uint64 {
		x += 0x9E3779B97F4A7C15
		y := (x ^ x>>30) * 0xBF58476D1CE4E5B9
		y = (y ^ y>>27) * 0x94D049BB133111EB
		return y ^ y>>31
	}
}

// The twin itself is what the chapter's words say: of a number's parts, of what is modulo 2^128, of what is of 128 bits.
func TestTwin(t *testing.T) {
	for _, c := range []struct {
		a    api.Wide
		want string
	}{
		{api.Wide{}, "0"},
		{api.Wide{Lo: 1<<64 - 1}, "18446744073709551615"},
		{api.Wide{Hi: 1}, "18446744073709551616"},
		{api.Wide{Hi: -1, Lo: 1<<64 - 1}, "-1"},
		{api.Wide{Hi: -1}, "-18446744073709551616"},
		{api.Wide{Hi: math.MaxInt, Lo: 1<<64 - 1}, "170141183460469231731687303715884105727"},
		{api.Wide{Hi: math.MinInt}, "-170141183460469231731687303715884105728"},
	} {
		n := whole(c.a)
		if n.String() != c.want || !keeps(n) || folded(n).Cmp(n) != 0 {
			t.Fatalf("whole of %v is %v; want %s", c.a, n, c.want)
		}
	}
	beyond, below := power(127), new(big.Int).Sub(bottom, big.NewInt(1))
	if keeps(beyond) || keeps(below) {
		t.Fatal("what is behind the ends isn't of 128 bits")
	}
	if got := folded(beyond).String(); got != "-170141183460469231731687303715884105728" {
		t.Fatalf("behind the greatest comes %s", got)
	}
	if got := folded(below).String(); got != "170141183460469231731687303715884105727" {
		t.Fatalf("ahead of the least comes %s", got)
	}
}
