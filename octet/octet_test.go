package octet

import (
	"math"
	"strings"
	"testing"

	"posthorn/api"
)

// numbers are some of all sizes, with single bits, with all of them, and with bytes that differ.
var numbers = []uint64{0, 1, 2, 127, 128, 255, 256, 258, 0x1234, 0x12345678, 0x80000001, 1<<32 - 1, 1 << 32, 0x0102030405060708, 0xf0e0d0c0b0a09080, 1 << 63, 1<<63 + 1, 1<<64 - 1}

// texts are some of all lengths from 0 to 17 bytes, with bytes 0 and 255 in them.
func texts() []string {
	out := []string{"\x00", "\xff", "\x00\x00", "\x00\xff\x80", "a\x00", "\x00a", "\xc3\xa9"}
	for n := range 18 {
		b := make([]byte, n)
		for i := range b {
			b[i] = byte(37*i + n + 1)
		}
		out = append(out, string(b))
	}
	return out
}

// P1.1

func TestTurnCases(t *testing.T) {
	for _, c := range []struct {
		x           uint32
		n           int
		left, right uint32
	}{
		{1, 0, 1, 1},
		{1, 1, 2, 1 << 31},
		{1, 31, 1 << 31, 2},
		{1, 32, 1, 1},
		{1, 33, 2, 1 << 31},
		{1, 64, 1, 1},
		{1, 65, 2, 1 << 31},
		{1, -1, 1 << 31, 2},
		{1, -31, 2, 1 << 31},
		{1, -32, 1, 1},
		{1, -33, 1 << 31, 2},
		{1 << 31, 1, 1, 1 << 30},
		{0x12345678, 0, 0x12345678, 0x12345678},
		{0x12345678, 4, 0x23456781, 0x81234567},
		{0x12345678, 8, 0x34567812, 0x78123456},
		{0x12345678, 16, 0x56781234, 0x56781234},
		{0x12345678, -8, 0x78123456, 0x34567812},
		{0x12345678, 32, 0x12345678, 0x12345678},
		{0x80000001, math.MinInt, 0x80000001, 0x80000001},
		{0x80000001, math.MaxInt, 0xc0000000, 0x00000003},
		{0, 7, 0, 0},
		{1<<32 - 1, 7, 1<<32 - 1, 1<<32 - 1},
	} {
		if l, r := Left(c.x, c.n), Right(c.x, c.n); l != c.left || r != c.right {
			t.Errorf("%#x by %d: left %#x, right %#x; want %#x, %#x", c.x, c.n, l, r, c.left, c.right)
		}
	}
}

// TestTurnBits follows each bit by itself, at each n near 0 on both sides.
func TestTurnBits(t *testing.T) {
	for n := -100; n <= 100; n++ {
		k := ((n % 32) + 32) % 32
		for bit := range 32 {
			if l, want := Left(1<<bit, n), uint32(1)<<((bit+k)%32); l != want {
				t.Errorf("bit %d left by %d: %#x, want %#x", bit, n, l, want)
			}
			if r, want := Right(1<<bit, n), uint32(1)<<((bit-k+32)%32); r != want {
				t.Errorf("bit %d right by %d: %#x, want %#x", bit, n, r, want)
			}
		}
	}
}

// P1.2

func TestBytesCases(t *testing.T) {
	for _, c := range []struct {
		x         uint64
		n         int
		low, high string
	}{
		{258, 3, "\x02\x01\x00", "\x00\x01\x02"},
		{258, 2, "\x02\x01", "\x01\x02"},
		{258, 1, "\x02", "\x02"},
		{258, 0, "", ""},
		{258, -1, "", ""},
		{258, math.MinInt, "", ""},
		{0, 2, "\x00\x00", "\x00\x00"},
		{0x0102030405060708, 4, "\x08\x07\x06\x05", "\x05\x06\x07\x08"},
		{0x0102030405060708, 8, "\x08\x07\x06\x05\x04\x03\x02\x01", "\x01\x02\x03\x04\x05\x06\x07\x08"},
		{0x0102030405060708, 9, "\x08\x07\x06\x05\x04\x03\x02\x01\x00", "\x00\x01\x02\x03\x04\x05\x06\x07\x08"},
		{1<<64 - 1, 10, strings.Repeat("\xff", 8) + "\x00\x00", "\x00\x00" + strings.Repeat("\xff", 8)},
	} {
		if l, h := Low(c.x, c.n), High(c.x, c.n); l != c.low || h != c.high {
			t.Errorf("%d bytes of %#x: %x, %x; want %x, %x", c.n, c.x, l, h, c.low, c.high)
		}
	}
}

func TestBytesOfMany(t *testing.T) {
	zeros := strings.Repeat("\x00", 100)
	for _, n := range []int{9, 32, 63, 64, 65, 100, 1 << 20, math.MaxInt} {
		size := min(n, 64)
		low := "\x02\x01" + zeros[:size-2]
		high := zeros[:size-2] + "\x01\x02"
		if l, h := Low(258, n), High(258, n); l != low || h != high {
			t.Errorf("%d bytes: %x, %x; want %x, %x", n, l, h, low, high)
		}
	}
}

func TestFromCases(t *testing.T) {
	for _, c := range []struct {
		s         string
		low, high uint64
	}{
		{"", 0, 0},
		{"\x00", 0, 0},
		{"\x07", 7, 7},
		{"\xff", 255, 255},
		{"\x02\x01", 258, 513},
		{"\x02\x01\x00", 258, 0x020100},
		{"\x00\x00\x01", 0x010000, 1},
		{"\x01\x02\x03\x04\x05\x06\x07", 0x07060504030201, 0x01020304050607},
		{"\x01\x02\x03\x04\x05\x06\x07\x08", 0x0807060504030201, 0x0102030405060708},
		{"\x01\x00\x00\x00\x00\x00\x00\x80", 1<<63 + 1, 1<<56 + 128},
		{"\x00\x00\x00\x00\x00\x00\x00\x00", 0, 0},
		{strings.Repeat("\xff", 8), 1<<64 - 1, 1<<64 - 1},
	} {
		if x, e := FromLow(c.s); x != c.low || e != api.OK {
			t.Errorf("%x from the low end: %#x, %d; want %#x", c.s, x, e, c.low)
		}
		if x, e := FromHigh(c.s); x != c.high || e != api.OK {
			t.Errorf("%x from the high end: %#x, %d; want %#x", c.s, x, e, c.high)
		}
	}
}

func TestFromTooMany(t *testing.T) {
	for _, s := range []string{"123456789", strings.Repeat("\x00", 9), "\x01" + strings.Repeat("\x00", 8), strings.Repeat("\x00", 8) + "\x01", strings.Repeat("x", 64), strings.Repeat("x", 1<<16)} {
		if x, e := FromLow(s); x != 0 || e != api.ErrSize {
			t.Errorf("%d bytes from the low end: %#x, %d", len(s), x, e)
		}
		if x, e := FromHigh(s); x != 0 || e != api.ErrSize {
			t.Errorf("%d bytes from the high end: %#x, %d", len(s), x, e)
		}
	}
}

// P1.3

func TestXorCases(t *testing.T) {
	for _, c := range []struct{ a, b, want string }{
		{"", "", ""},
		{"abc", "\x01\x02\x03", "```"},
		{"abc", "abc", "\x00\x00\x00"},
		{"abc", "\x00\x00\x00", "abc"},
		{"\xff\x0f\x80", "\xff\xff\xff", "\x00\xf0\x7f"},
		{"\x00", "\xff", "\xff"},
		{"\xc3\xa9", "\x80\x80", "C)"},
	} {
		if s, e := Xor(c.a, c.b); s != c.want || e != api.OK {
			t.Errorf("%x by %x: %x, %d; want %x", c.a, c.b, s, e, c.want)
		}
	}
}

func TestXorOfOtherLengths(t *testing.T) {
	for _, c := range []struct{ a, b string }{{"abc", "ab"}, {"ab", "abc"}, {"", "a"}, {"a", ""}, {"a", "a\x00"}, {"\x00", ""}, {strings.Repeat("x", 65), strings.Repeat("x", 64)}} {
		if s, e := Xor(c.a, c.b); s != "" || e != api.ErrSize {
			t.Errorf("%x by %x: %x, %d", c.a, c.b, s, e)
		}
	}
}

func TestSame(t *testing.T) {
	all := texts()
	for i, a := range all {
		for k, b := range all {
			want := string([]byte(a)) == b
			if i == k && !want {
				t.Fatalf("text %d is given twice", i)
			}
			if Same(a, b) != want {
				t.Errorf("%x and %x: same is %t", a, b, !want)
			}
		}
	}
	for _, c := range []struct {
		a, b string
		want bool
	}{{"", "", true}, {"a", "a", true}, {"a", "b", false}, {"ab", "a", false}, {"a", "ab", false}, {"ab", "bb", false}, {"ab", "ac", false}, {"", "\x00", false}, {"\x00", "\x00\x00", false}, {"a", "A", false}} {
		if Same(c.a, c.b) != c.want {
			t.Errorf("%x and %x: same is %t", c.a, c.b, !c.want)
		}
	}
}

func TestFillCases(t *testing.T) {
	for _, c := range []struct {
		s    string
		n    int
		want string
	}{
		{"abc", 1, "abc"},
		{"abc", 2, "abc\x00"},
		{"abc", 3, "abc"},
		{"abc", 4, "abc\x00"},
		{"abcd", 2, "abcd"},
		{"abcde", 4, "abcde\x00\x00\x00"},
		{"", 1, ""},
		{"", 5, ""},
		{"", math.MaxInt, ""},
		{"a", 16, "a" + strings.Repeat("\x00", 15)},
		{"a\x00", 4, "a\x00\x00\x00"},
		{strings.Repeat("x", 16), 16, strings.Repeat("x", 16)},
		{strings.Repeat("x", 17), 16, strings.Repeat("x", 17) + strings.Repeat("\x00", 15)},
		{"a", 1 << 20, "a" + strings.Repeat("\x00", 1<<20-1)},
		{"abc", 0, "abc"},
		{"abc", -1, "abc"},
		{"abc", -2, "abc"},
		{"abc", math.MinInt, "abc"},
		{"", 0, ""},
	} {
		if s := Fill(c.s, c.n); s != c.want {
			t.Errorf("%q to a multiple of %d: %d bytes; want %d", c.s, c.n, len(s), len(c.want))
		}
	}
}

// TestFillSizes holds each answer against what the promise says of it: s ahead, as few bytes 0 behind as will do.
func TestFillSizes(t *testing.T) {
	for _, s := range texts() {
		for n := 1; n <= 40; n++ {
			f := Fill(s, n)
			if len(f)%n != 0 || len(f)-len(s) >= n || !strings.HasPrefix(f, s) || strings.Trim(f[len(s):], "\x00") != "" {
				t.Errorf("%x to a multiple of %d: %x", s, n, f)
			}
		}
	}
}

// TestFillBeyond asks for more than any memory has: of such an answer nothing is promised, but the call must end.
func TestFillBeyond(t *testing.T) {
	for _, n := range []int{1 << 40, 1 << 62, math.MaxInt} {
		if s := Fill("a", n); s != "" {
			t.Errorf("to a multiple of %d: %d bytes", n, len(s))
		}
	}
}

// P1.4

func TestThereAndBack(t *testing.T) {
	for _, x := range numbers {
		for n := 8; n <= 9; n++ {
			low, high := Low(x, n)[:8], High(x, n)[n-8:]
			if y, e := FromLow(low); y != x || e != api.OK {
				t.Errorf("%#x by %x: %#x, %d", x, low, y, e)
			}
			if y, e := FromHigh(high); y != x || e != api.OK {
				t.Errorf("%#x by %x: %#x, %d", x, high, y, e)
			}
		}
		for n := range 8 {
			rest := x & (1<<(8*n) - 1)
			if y, e := FromLow(Low(x, n)); y != rest || e != api.OK {
				t.Errorf("%d bytes of %#x from the low end: %#x, %d", n, x, y, e)
			}
			if y, e := FromHigh(High(x, n)); y != rest || e != api.OK {
				t.Errorf("%d bytes of %#x from the high end: %#x, %d", n, x, y, e)
			}
		}
	}
	for _, s := range texts() {
		if len(s) > 8 {
			continue
		}
		x, _ := FromLow(s)
		y, _ := FromHigh(s)
		if l, h := Low(x, len(s)), High(y, len(s)); l != s || h != s {
			t.Errorf("%x: %x, %x", s, l, h)
		}
	}
}

func TestTurnBack(t *testing.T) {
	for _, x := range numbers {
		x := uint32(x)
		for n := -70; n <= 70; n++ {
			if y := Left(Left(x, n), 32-n); y != x {
				t.Errorf("%#x left by %d and %d: %#x", x, n, 32-n, y)
			}
			if y := Right(Right(x, n), 32-n); y != x {
				t.Errorf("%#x right by %d and %d: %#x", x, n, 32-n, y)
			}
			if y := Right(Left(x, n), n); y != x {
				t.Errorf("%#x left and right by %d: %#x", x, n, y)
			}
			if l, r := Left(x, n), Right(x, 32-n); l != r {
				t.Errorf("%#x left by %d is %#x, right by %d is %#x", x, n, l, 32-n, r)
			}
		}
	}
}

func TestXorTwice(t *testing.T) {
	for _, a := range texts() {
		for _, b := range texts() {
			once, e := Xor(a, b)
			if len(a) != len(b) {
				if once != "" || e != api.ErrSize {
					t.Errorf("%x by %x: %x, %d", a, b, once, e)
				}
				continue
			}
			if twice, f := Xor(once, b); twice != a || e != api.OK || f != api.OK {
				t.Errorf("%x by %x twice: %x, %d, %d", a, b, twice, e, f)
			}
		}
	}
}

// R4 and R5: nothing is kept from call to call.
func TestAgain(t *testing.T) {
	for _, s := range texts() {
		first, _ := Xor(s, s)
		fill := Fill(s, 7)
		for _, other := range texts() {
			Xor(other, other)
			Fill(other, 5)
		}
		if again, _ := Xor(s, s); again != first || Fill(s, 7) != fill {
			t.Errorf("%x answers otherwise the second time", s)
		}
	}
}
