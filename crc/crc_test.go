package crc_test

import (
	"hash/crc32"
	"strings"
	"testing"

	"gauger/crc"
)

// expected is the sum, bit by bit, as the chapter tells it.
func expected(s string) uint32 {
	n := uint32(0xFFFFFFFF)
	for _, b := range []byte(s) {
		n ^= uint32(b)
		for range 8 {
			if n&1 == 1 {
				n = n>>1 ^ 0xEDB88320
			} else {
				n >>= 1
			}
		}
	}
	return ^n
}

// tailOf is a sum's bytes, by division.
func tailOf(n uint32) string {
	b := make([]byte, 4)
	for i := range b {
		b[i] = byte(n % 256)
		n /= 256
	}
	return string(b)
}

// mixed is n bytes among which there is no plain rule.
func mixed(n int) string {
	b := make([]byte, n)
	x := uint32(n + 1)
	for i := range b {
		x = x*1664525 + 1013904223
		b[i] = byte(x >> 24)
	}
	return string(b)
}

// bodies is bytes of many kinds: nothing, each byte alone, bytes that are all the same, mixed ones of each length up to a page's and beyond.
func bodies() []string {
	list := []string{"", "123456789", "abc", "\xc2\x41\x24\x35", "\xff\xff\xff\xff", "ünïcode", "\xed\xa0\x80"}
	for b := range 256 {
		list = append(list, string([]byte{byte(b)}))
	}
	for n := range 300 {
		list = append(list, mixed(n), strings.Repeat("\x00", n), strings.Repeat("\xff", n))
	}
	return append(list, mixed(1<<16))
}

// P2.1: sums that are written out.
func TestSumByHand(t *testing.T) {
	for _, c := range []struct {
		s    string
		want uint32
	}{
		{"", 0},
		{"123456789", 0xCBF43926},
		{"a", 0xE8B7BE43},
		{"abc", 0x352441C2},
		{"\x00", 0xD202EF8D},
		{"\x00\x00\x00\x00", 0x2144DF1C},
		{"\xff\xff\xff\xff", 0xFFFFFFFF},
		{"The quick brown fox jumps over the lazy dog", 0x414FA339},
	} {
		if got := crc.Sum(c.s); got != c.want {
			t.Fatalf("Sum(%q) = %08X; want %08X", c.s, got, c.want)
		}
	}
}

// P2.1: the sum is that of the chapter's steps, and that which others call by the same number.
func TestSum(t *testing.T) {
	for _, s := range bodies() {
		got := crc.Sum(s)
		if want := expected(s); got != want {
			t.Fatalf("Sum of %d bytes = %08X; want %08X", len(s), got, want)
		}
		if want := crc32.ChecksumIEEE([]byte(s)); got != want {
			t.Fatalf("Sum of %d bytes = %08X; want %08X", len(s), got, want)
		}
	}
}

// P2.1: the tail's lowest byte is the first.
func TestTail(t *testing.T) {
	for _, c := range []struct {
		n    uint32
		want string
	}{
		{0, "\x00\x00\x00\x00"},
		{1, "\x01\x00\x00\x00"},
		{0x01020304, "\x04\x03\x02\x01"},
		{0xCBF43926, "\x26\x39\xf4\xcb"},
		{0xFF, "\xff\x00\x00\x00"},
		{0xFF000000, "\x00\x00\x00\xff"},
		{0x80000000, "\x00\x00\x00\x80"},
		{0xFFFFFFFF, "\xff\xff\xff\xff"},
	} {
		if got := crc.Tail(c.n); got != c.want {
			t.Fatalf("Tail(%08X) = %q; want %q", c.n, got, c.want)
		}
	}
	for bit := range 32 {
		for _, n := range []uint32{1 << bit, 1<<bit - 1, ^uint32(1 << bit)} {
			if got := crc.Tail(n); got != tailOf(n) {
				t.Fatalf("Tail(%08X) = %q; want %q", n, got, tailOf(n))
			}
		}
	}
}

// P2.1, P2.2: what was sealed has its tail behind it, and is opened as it was.
func TestSealed(t *testing.T) {
	for _, s := range bodies() {
		sealed := crc.Seal(s)
		if sealed != s+tailOf(expected(s)) {
			t.Fatalf("Seal of %d bytes is %d bytes with the tail %q", len(s), len(sealed), sealed[len(sealed)-4:])
		}
		if body, ok := crc.Open(sealed); body != s || !ok {
			t.Fatalf("Open of %d sealed bytes: %d bytes, %v", len(s), len(body), ok)
		}
		twice := crc.Seal(sealed)
		if body, ok := crc.Open(twice); body != sealed || !ok {
			t.Fatalf("Open of %d bytes, sealed twice: %d bytes, %v", len(s), len(body), ok)
		}
	}
}

// P2.1: fewer than four bytes have no tail; four are a tail of nothing, and just four zeros are it.
func TestOpenFew(t *testing.T) {
	for n := range 4 {
		refuse(t, strings.Repeat("\x00", n))
		refuse(t, strings.Repeat("\xff", n))
		refuse(t, mixed(n))
	}
	if s, ok := crc.Open("\x00\x00\x00\x00"); s != "" || !ok {
		t.Fatalf("Open of the tail of nothing = %q, %v", s, ok)
	}
	for at := range 4 {
		for b := 1; b < 256; b++ {
			refuse(t, strings.Repeat("\x00", at)+string([]byte{byte(b)})+strings.Repeat("\x00", 3-at))
		}
	}
}

// refuse tells where bytes are opened that mustn't be.
func refuse(t *testing.T, s string) {
	t.Helper()
	if body, ok := crc.Open(s); body != "" || ok {
		t.Fatalf("Open of %d bytes = %q, %v; want nothing, false", len(s), body, ok)
	}
}

// P2.1: a tail that is another sum's, that stands the other way round, or elsewhere, or that isn't there.
func TestOpenWrong(t *testing.T) {
	for _, s := range bodies() {
		sum := expected(s)
		tail := tailOf(sum)
		for _, n := range []uint32{sum + 1, sum - 1, ^sum, sum ^ 1<<31, sum ^ 1<<16, expected(s + "a"), expected("a" + s)} {
			refuse(t, s+tailOf(n))
		}
		back := string([]byte{tail[3], tail[2], tail[1], tail[0]})
		if back != tail {
			refuse(t, s+back)
		}
		for n := 1; n <= 3; n++ {
			judge(t, s+tail[:n])
			judge(t, s+tail+tail[:n])
		}
		judge(t, s+tail+"\x00")
		judge(t, s+"\x00"+tail)
		judge(t, "\x00"+s+tail)
	}
}

// judge tells where bytes are opened whose last four aren't the tail of those ahead of them, or aren't where they are. (Bytes more or fewer may leave a tail right: 0 behind four bytes 255 does.)
func judge(t *testing.T, s string) {
	t.Helper()
	if len(s) < 4 || s[len(s)-4:] != tailOf(expected(s[:len(s)-4])) {
		refuse(t, s)
		return
	}
	if body, ok := crc.Open(s); body != s[:len(s)-4] || !ok {
		t.Fatalf("Open of %d bytes = %q, %v; want all but the last four", len(s), body, ok)
	}
}

// P2.2: within four bytes that stand one behind the other, at each place, across the tail and in it, each way of turning that is tried keeps it from being opened.
func TestTurned(t *testing.T) {
	for _, s := range []string{"", "a", "abc", "abcd", "123456789", strings.Repeat("\x00", 20), strings.Repeat("\xff", 9), mixed(60), mixed(252)} {
		sealed := crc.Seal(s)
		for at := range len(sealed) - 3 {
			for _, mask := range masks() {
				refuse(t, turn(sealed, at, mask))
			}
		}
	}
}

// masks is ways to turn bits of four bytes: one, two, all that lie side by side, and mixed ones.
func masks() []uint32 {
	var list []uint32
	for high := range 32 {
		for low := range high + 1 {
			list = append(list, 1<<high|1<<low, ^uint32(0)>>(31-high+low)<<low)
		}
	}
	// The number of the sum itself, and its bits the other way round, are what a sum is most likely to miss.
	list = append(list, 0xEDB88320, 0x04C11DB7, 0xFFFFFFFF, 0x82608EDB)
	x := uint32(7)
	for range 500 {
		x = x*1664525 + 1013904223
		if x != 0 {
			list = append(list, x)
		}
	}
	return list
}

// turn is bytes of which the bits of a mask are turned, in the four bytes from a place on.
func turn(s string, at int, mask uint32) string {
	b := []byte(s)
	for i := range 4 {
		b[at+i] ^= byte(mask >> (8 * i))
	}
	return string(b)
}

// P2.2: two bytes behind one another, turned in every way there is.
func TestTwoBytesTurned(t *testing.T) {
	sealed := crc.Seal("gauge")
	for at := range len(sealed) - 3 {
		for mask := uint32(1); mask < 1<<16; mask++ {
			refuse(t, turn(sealed, at, mask))
			if at == len(sealed)-4 {
				refuse(t, turn(sealed, at, mask<<16))
			}
		}
	}
}

// Rule 4: a call hangs on its arguments alone, whatever was asked ahead of it.
func TestSame(t *testing.T) {
	first := crc.Sum("abc")
	crc.Open("abc")
	crc.Seal(mixed(100))
	if crc.Sum("abc") != first || crc.Seal("abc") != "abc\xc2\x41\x24\x35" {
		t.Fatal("the sum of the same bytes is another one, asked again")
	}
}

// P1, P2.1, P2.2: bytes may be any.
func FuzzOpen(f *testing.F) {
	f.Add("")
	f.Add("abc\xc2\x41\x24\x35")
	f.Add("\x00\x00\x00\x00")
	f.Add("\xff\xff\xff\xff\xff\xff\xff\xff")
	f.Fuzz(func(t *testing.T, s string) {
		if crc.Sum(s) != expected(s) {
			t.Fatalf("Sum(%q) = %08X; want %08X", s, crc.Sum(s), expected(s))
		}
		if body, ok := crc.Open(crc.Seal(s)); body != s || !ok {
			t.Fatalf("Open(Seal(%q)) = %q, %v", s, body, ok)
		}
		judge(t, s)
	})
}
