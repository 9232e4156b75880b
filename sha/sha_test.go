package sha

import (
	"crypto/sha256"
	"encoding"
	"encoding/binary"
	"encoding/hex"
	"math/big"
	"strings"
	"testing"

	"posthorn/api"
)

// draws makes numbers that look like chance, and are the same in each run.
type draws uint64

func (d *draws) next() uint32 {
	*d = *d*6364136223846793005 + 1442695040888963407
	return uint32(*d >> 32)
}

func (d *draws) bytes(n int) string {
	b := make([]byte, n)
	for i := range b {
		b[i] = byte(d.next() >> 8)
	}
	return string(b)
}

// edges are the sizes about a block's end, and about the end of what its padding leaves.
var edges = []int{0, 1, 3, 54, 55, 56, 57, 62, 63, 64, 65, 118, 119, 120, 121, 127, 128, 129, 183, 184, 191, 192, 193, 1000}

// libraryMix asks Go's library what a block makes of a state.
func libraryMix(t *testing.T, s State, block string) State {
	t.Helper()
	b := []byte("sha\x03")
	for _, x := range s {
		b = binary.BigEndian.AppendUint32(b, x)
	}
	b = append(b, make([]byte, 64+8)...)
	h := sha256.New()
	if err := h.(encoding.BinaryUnmarshaler).UnmarshalBinary(b); err != nil {
		t.Fatal(err)
	}
	h.Write([]byte(block))
	b, err := h.(encoding.BinaryMarshaler).MarshalBinary()
	if err != nil {
		t.Fatal(err)
	}
	for i := range s {
		s[i] = binary.BigEndian.Uint32(b[4+4*i:])
	}
	return s
}

func librarySum(text string) string {
	d := sha256.Sum256([]byte(text))
	return string(d[:])
}

// primes tells the first n of them.
func primes(n int) []int64 {
	var out []int64
	for x := int64(2); len(out) < n; x++ {
		if big.NewInt(x).ProbablyPrime(20) {
			out = append(out, x)
		}
	}
	return out
}

// behindPoint tells the first 32 bits behind the point of x's k-th root.
func behindPoint(x int64, k int) uint32 {
	whole := new(big.Int).Lsh(big.NewInt(x), uint(32*k))
	low, high := big.NewInt(0), new(big.Int).Set(whole)
	for low.Cmp(high) < 0 {
		mid := new(big.Int).Add(low, high)
		mid.Add(mid, big.NewInt(1)).Rsh(mid, 1)
		if new(big.Int).Exp(mid, big.NewInt(int64(k)), nil).Cmp(whole) <= 0 {
			low = mid
		} else {
			high = mid.Sub(mid, big.NewInt(1))
		}
	}
	return uint32(low.Uint64())
}

// P2.1

func TestFirst(t *testing.T) {
	want := State{0x6a09e667, 0xbb67ae85, 0x3c6ef372, 0xa54ff53a, 0x510e527f, 0x9b05688c, 0x1f83d9ab, 0x5be0cd19}
	s := First()
	if s != want {
		t.Errorf("First: %x", s)
	}
	for i, p := range primes(len(s)) {
		if x := behindPoint(p, 2); s[i] != x {
			t.Errorf("number %d: %#x, want %#x", i, s[i], x)
		}
	}
	s[0] = 0
	if First() != want {
		t.Error("First hangs on what was done to an elder answer")
	}
}

func TestTable(t *testing.T) {
	for i, p := range primes(rounds) {
		if x := behindPoint(p, 3); table[i] != x {
			t.Errorf("number %d: %#x, want %#x", i, table[i], x)
		}
	}
}

func TestMixExample(t *testing.T) {
	s, e := Mix(First(), "abc\x80"+strings.Repeat("\x00", 59)+"\x18")
	want := State{0xba7816bf, 0x8f01cfea, 0x414140de, 0x5dae2223, 0xb00361a3, 0x96177a9c, 0xb410ff61, 0xf20015ad}
	if s != want || e != api.OK {
		t.Errorf("%x, %d", s, e)
	}
}

func TestMixStates(t *testing.T) {
	var full State
	for i := range full {
		full[i] = 1<<32 - 1
	}
	states := []State{First(), {}, full}
	for i := range len(full) {
		var s State
		s[i] = 1 << 31
		states = append(states, s)
	}
	d := draws(1)
	for range 20 {
		var s State
		for i := range s {
			s[i] = d.next()
		}
		states = append(states, s)
	}
	blocks := []string{strings.Repeat("\x00", 64), strings.Repeat("\xff", 64), strings.Repeat("\x80", 64), d.bytes(64), d.bytes(64)}
	for _, s := range states {
		for _, b := range blocks {
			was := s
			got, e := Mix(s, b)
			if want := libraryMix(t, s, b); got != want || e != api.OK {
				t.Errorf("%x, %x: %x, %d; want %x", s, b, got, e, want)
			}
			if s != was {
				t.Errorf("%x became %x", was, s)
			}
		}
	}
}

// TestMixBytes turns each bit of a block by itself.
func TestMixBytes(t *testing.T) {
	for bit := range 64 * 8 {
		b := make([]byte, 64)
		b[bit/8] = 1 << (bit % 8)
		got, e := Mix(First(), string(b))
		if want := libraryMix(t, First(), string(b)); got != want || e != api.OK {
			t.Errorf("bit %d: %x, %d; want %x", bit, got, e, want)
		}
	}
}

func TestMixSizes(t *testing.T) {
	for n := range 300 {
		s, e := Mix(First(), strings.Repeat("a", n))
		if n == 64 {
			if e != api.OK || s == (State{}) {
				t.Errorf("%d bytes: %x, %d", n, s, e)
			}
			continue
		}
		if e != api.ErrSize || s != (State{}) {
			t.Errorf("%d bytes: %x, %d", n, s, e)
		}
	}
	// So many characters as a block has bytes are no block.
	if s, e := Mix(First(), strings.Repeat("\u00e9", 64)); e != api.ErrSize || s != (State{}) {
		t.Errorf("64 characters of two bytes: %x, %d", s, e)
	}
}

func TestPadCases(t *testing.T) {
	zeros := strings.Repeat("\x00", 64)
	for _, c := range []struct {
		n    uint64
		want string
	}{
		{0, "\x80" + zeros[:55] + zeros[:8]},
		{1, "\x80" + zeros[:54] + zeros[:7] + "\x08"},
		{3, "\x80" + zeros[:52] + zeros[:7] + "\x18"},
		{55, "\x80" + zeros[:6] + "\x01\xb8"},
		{56, "\x80" + zeros[:63] + zeros[:6] + "\x01\xc0"},
		{63, "\x80" + zeros[:56] + zeros[:6] + "\x01\xf8"},
		{64, "\x80" + zeros[:55] + zeros[:6] + "\x02\x00"},
		{65, "\x80" + zeros[:54] + zeros[:6] + "\x02\x08"},
		{119, "\x80" + zeros[:6] + "\x03\xb8"},
		{120, "\x80" + zeros[:63] + zeros[:6] + "\x03\xc0"},
		{0x0102030405060708, "\x80" + zeros[:47] + "\x08\x10\x18\x20\x28\x30\x38\x40"},
		{1<<61 - 1, "\x80" + zeros[:56] + "\xff\xff\xff\xff\xff\xff\xff\xf8"},
		{1 << 61, "\x80" + zeros[:55] + zeros[:8]},
		{1<<61 + 1, "\x80" + zeros[:54] + zeros[:7] + "\x08"},
		{1 << 63, "\x80" + zeros[:55] + zeros[:8]},
		{1<<64 - 65, "\x80" + zeros[:56] + "\xff\xff\xff\xff\xff\xff\xfd\xf8"},
		{1<<64 - 64, "\x80" + zeros[:55] + "\xff\xff\xff\xff\xff\xff\xfe\x00"},
		{1<<64 - 10, "\x80" + zeros[:1] + "\xff\xff\xff\xff\xff\xff\xff\xb0"},
		{1<<64 - 9, "\x80" + "\xff\xff\xff\xff\xff\xff\xff\xb8"},
		{1<<64 - 8, "\x80" + zeros[:63] + "\xff\xff\xff\xff\xff\xff\xff\xc0"},
		{1<<64 - 2, "\x80" + zeros[:57] + "\xff\xff\xff\xff\xff\xff\xff\xf0"},
		{1<<64 - 1, "\x80" + zeros[:56] + "\xff\xff\xff\xff\xff\xff\xff\xf8"},
	} {
		if p := Pad(c.n); p != c.want {
			t.Errorf("%d: %x, want %x", c.n, p, c.want)
		}
	}
}

// TestPadShape holds the padding against the chapter's words, with numbers that have no end.
func TestPadShape(t *testing.T) {
	for _, from := range []uint64{0, 1 << 16, 1<<32 - 100, 1<<61 - 100, 1<<63 - 100, 1<<64 - 200} {
		for n := from; n-from < 200; n++ {
			p := Pad(n)
			all := new(big.Int).Add(new(big.Int).SetUint64(n), big.NewInt(int64(len(p))))
			if len(p) < 9 || len(p) > 72 || new(big.Int).Mod(all, big.NewInt(64)).Sign() != 0 {
				t.Fatalf("%d: %d bytes", n, len(p))
			}
			bits := new(big.Int).Mul(new(big.Int).SetUint64(n), big.NewInt(8))
			low := bits.Mod(bits, new(big.Int).Lsh(big.NewInt(1), 64)).Uint64()
			want := "\x80" + strings.Repeat("\x00", len(p)-9) + string(binary.BigEndian.AppendUint64(nil, low))
			if p != want {
				t.Fatalf("%d: %x, want %x", n, p, want)
			}
		}
	}
}

func TestSumCases(t *testing.T) {
	for _, c := range []struct{ text, want string }{
		{"", "e3b0c44298fc1c149afbf4c8996fb92427ae41e4649b934ca495991b7852b855"},
		{"abc", "ba7816bf8f01cfea414140de5dae2223b00361a396177a9cb410ff61f20015ad"},
		{"abcdbcdecdefdefgefghfghighijhijkijkljklmklmnlmnomnopnopq", "248d6a61d20638b8e5c026930c3e6039a33ce45964ff2167f6ecedd419db06c1"},
		{"abcdefghbcdefghicdefghijdefghijkefghijklfghijklmghijklmnhijklmnoijklmnopjklmnopqklmnopqrlmnopqrsmnopqrstnopqrstu", "cf5b16a778af8380036ce59e7b0492370b249b11e8f07a51afac45037afee9d1"},
		{strings.Repeat("a", 1000000), "cdc76e5c9914fb9281a1c7e284d73e67f1809a48a497200e046d39ccc7112cd0"},
	} {
		if s := hex.EncodeToString([]byte(Sum(c.text))); s != c.want {
			t.Errorf("%.80q: %s, want %s", c.text, s, c.want)
		}
	}
}

func TestSumSizes(t *testing.T) {
	d := draws(2)
	for n := range 300 {
		for _, text := range []string{d.bytes(n), strings.Repeat("\x00", n), strings.Repeat("\xff", n)} {
			if s, want := Sum(text), librarySum(text); s != want {
				t.Errorf("%d bytes: %x, want %x", n, s, want)
			}
		}
	}
	for _, n := range []int{4095, 4096, 1<<20 + 7} {
		text := d.bytes(n)
		if s, want := Sum(text), librarySum(text); s != want {
			t.Errorf("%d bytes: %x, want %x", n, s, want)
		}
	}
}

// P2.2

func TestHashNew(t *testing.T) {
	h := New()
	if h == nil {
		t.Fatal("none")
	}
	if h.Len() != 0 || h.Sum() != librarySum("") {
		t.Errorf("%d, %x", h.Len(), h.Sum())
	}
	h.Add("")
	if h.Len() != 0 || h.Sum() != librarySum("") {
		t.Errorf("behind no bytes: %d, %x", h.Len(), h.Sum())
	}
}

// TestHashTwoParts parts texts of the edges' sizes at each place, asked between and not.
func TestHashTwoParts(t *testing.T) {
	d := draws(3)
	for _, n := range edges {
		text := d.bytes(n)
		for cut := range n + 1 {
			for _, asked := range []bool{false, true} {
				h := New()
				h.Add(text[:cut])
				if asked && (h.Sum() != librarySum(text[:cut]) || h.Len() != uint64(cut)) {
					t.Fatalf("%d of %d bytes: %x, %d", cut, n, h.Sum(), h.Len())
				}
				h.Add(text[cut:])
				if h.Sum() != librarySum(text) || h.Len() != uint64(n) {
					t.Fatalf("%d bytes, cut at %d, asked %t: %x, %d", n, cut, asked, h.Sum(), h.Len())
				}
			}
		}
	}
}

// TestHashManyParts asks behind each part, the same thing twice.
func TestHashManyParts(t *testing.T) {
	d := draws(4)
	for range 200 {
		h, whole, text := New(), New(), ""
		for range 1 + d.next()%12 {
			part := d.bytes(int(d.next() % 150))
			h.Add(part)
			whole.Add(part)
			text += part
			first := h.Sum()
			if second := h.Sum(); first != librarySum(text) || second != first || h.Len() != uint64(len(text)) {
				t.Fatalf("%d bytes: %x, %x, %d", len(text), first, second, h.Len())
			}
		}
		if whole.Sum() != h.Sum() || whole.Len() != h.Len() {
			t.Fatalf("%d bytes: asked %x, not asked %x", len(text), h.Sum(), whole.Sum())
		}
	}
}

func TestHashBytes(t *testing.T) {
	d := draws(5)
	text := d.bytes(400)
	h := New()
	for i := range len(text) {
		h.Add(text[i : i+1])
		if h.Sum() != librarySum(text[:i+1]) || h.Len() != uint64(i+1) {
			t.Fatalf("%d bytes: %x, %d", i+1, h.Sum(), h.Len())
		}
	}
}

// TestHashesApart lets two texts go on side by side.
func TestHashesApart(t *testing.T) {
	g, h := New(), New()
	for range 10 {
		g.Add("one text ")
		h.Add("another one that is longer ")
	}
	if g.Sum() != librarySum(strings.Repeat("one text ", 10)) || g.Len() != 90 {
		t.Errorf("%x, %d", g.Sum(), g.Len())
	}
	if h.Sum() != librarySum(strings.Repeat("another one that is longer ", 10)) || h.Len() != 270 {
		t.Errorf("%x, %d", h.Sum(), h.Len())
	}
	if New().Sum() != librarySum("") {
		t.Error("a new one isn't empty")
	}
}

// P2.3

// TestSumIsMixing mixes the blocks of a text and its padding by hand.
func TestSumIsMixing(t *testing.T) {
	d := draws(6)
	for _, n := range edges {
		text := d.bytes(n)
		padded := text + Pad(uint64(n))
		s := First()
		for i := 0; i < len(padded); i += 64 {
			var e api.Errno
			if s, e = Mix(s, padded[i:i+64]); e != api.OK {
				t.Fatalf("%d bytes, block at %d: %d", n, i, e)
			}
		}
		var want []byte
		for _, x := range s {
			want = binary.BigEndian.AppendUint32(want, x)
		}
		if got := Sum(text); got != string(want) {
			t.Errorf("%d bytes: %x, mixed %x", n, got, want)
		}
	}
}

func TestPartsDontMatter(t *testing.T) {
	d := draws(7)
	for _, n := range edges {
		text := d.bytes(n)
		for size := 1; size <= 130; size++ {
			h := New()
			for i := 0; i < n; i += size {
				h.Add(text[i:min(i+size, n)])
			}
			if h.Sum() != Sum(text) || h.Len() != uint64(n) {
				t.Fatalf("%d bytes in parts of %d: %x, %x", n, size, h.Sum(), Sum(text))
			}
		}
	}
}
