package poly

import (
	"crypto/sha256"
	"encoding/hex"
	"math/big"
	"slices"
	"strings"
	"testing"

	"posthorn/api"
)

// drawn tells n bytes that look like chance, others of another seed, and the same in each run.
func drawn(seed uint64, n int) string {
	b := make([]byte, n)
	for i := range b {
		seed = seed*6364136223846793005 + 1442695040888963407
		b[i] = byte(seed >> 56)
	}
	return string(b)
}

// rising tells n bytes, each one more than the one ahead.
func rising(from byte, n int) string {
	b := make([]byte, n)
	for i := range b {
		b[i] = from + byte(i)
	}
	return string(b)
}

func zeros(n int) string {
	return strings.Repeat("\x00", n)
}

func fulls(n int) string {
	return strings.Repeat("\xff", n)
}

// changed tells s with byte i turned by x.
func changed(s string, i int, x byte) string {
	b := []byte(s)
	b[i] ^= x
	return string(b)
}

func unhex(t *testing.T, s string) string {
	t.Helper()
	b, err := hex.DecodeString(strings.ReplaceAll(s, " ", ""))
	if err != nil {
		t.Fatal(err)
	}
	return string(b)
}

// fromLow tells the number of bytes from the low end.
func fromLow(s string) *big.Int {
	b := []byte(s)
	slices.Reverse(b)
	return new(big.Int).SetBytes(b)
}

// low tells the low n bytes of a number, which may be below 0.
func low(x *big.Int, n int) string {
	rest := new(big.Int).Mod(x, power(8*n))
	b := rest.FillBytes(make([]byte, n))
	slices.Reverse(b)
	return string(b)
}

// power tells 2 to the power of n.
func power(n int) *big.Int {
	return new(big.Int).Lsh(big.NewInt(1), uint(n))
}

// more tells x and k.
func more(x *big.Int, k int64) *big.Int {
	return new(big.Int).Add(x, big.NewInt(k))
}

// modulus tells 2^130 - 5.
func modulus() *big.Int {
	return more(power(130), -5)
}

// modelR tells the number r of a key, by the chapter's words.
func modelR(key string) *big.Int {
	b := []byte(key[:16])
	for _, i := range []int{3, 7, 11, 15} {
		b[i] %= 16
	}
	for _, i := range []int{4, 8, 12} {
		b[i] -= b[i] % 4
	}
	return fromLow(string(b))
}

// modelSum tells a text's a, by the chapter's words.
func modelSum(key, text string) *big.Int {
	a := new(big.Int)
	for len(text) > 0 {
		n := min(16, len(text))
		a.Add(a, fromLow(text[:n]))
		a.Add(a, power(8*n))
		a.Mul(a, modelR(key))
		a.Mod(a, modulus())
		text = text[n:]
	}
	return a
}

// modelTag tells a text's tag, by the chapter's words.
func modelTag(key, text string) string {
	a := modelSum(key, text)
	return low(a.Add(a, fromLow(key[16:])), 16)
}

// holdTag holds a tag against the model, by Tag, by Check, and by a Poly.
func holdTag(t *testing.T, key, text string) {
	t.Helper()
	want := modelTag(key, text)
	if s, e := Tag(key, text); s != want || e != api.OK {
		t.Errorf("key %x, text %x: %x, %d; want %x", key, text, s, e, want)
	}
	if !Check(key, text, want) {
		t.Errorf("key %x, text %x: %x isn't right", key, text, want)
	}
	p, e := New(key)
	if e != api.OK {
		t.Fatalf("key %x: %d", key, e)
	}
	p.Add(text)
	if s := p.Tag(); s != want {
		t.Errorf("key %x, text %x: a Poly's %x, want %x", key, text, s, want)
	}
}

// edgeKeys are of all bits, of none, of few, and some between.
func edgeKeys() []string {
	return []string{
		zeros(32), fulls(32), fulls(16) + zeros(16), zeros(16) + fulls(16),
		"\x01" + zeros(31), "\x02" + zeros(31), zeros(15) + "\x08" + zeros(16), zeros(15) + "\x0f" + fulls(16),
		"\x01" + zeros(15) + fulls(16), "\x02" + zeros(15) + "\x01" + zeros(15), zeros(4) + "\x04" + zeros(27),
		strings.Repeat("\x55", 32), strings.Repeat("\xaa", 32), rising(0, 32), rising(200, 32), drawn(1, 32), drawn(2, 32),
	}
}

// edgeSizes are those about a block's end, and some that are far from it.
var edgeSizes = []int{0, 1, 2, 14, 15, 16, 17, 18, 30, 31, 32, 33, 34, 47, 48, 49, 63, 64, 65, 255, 256, 257, 1000, 4096, 16384}

// wrongSizes are of what isn't a key.
var wrongSizes = []int{0, 1, 15, 16, 17, 24, 30, 31, 33, 34, 48, 64, 1000}

// P5.1

func TestClampCases(t *testing.T) {
	for _, c := range []struct{ r, want string }{
		{"ffffffff ffffffff ffffffff ffffffff", "ffffff0f fcffff0f fcffff0f fcffff0f"},
		{"00000000 00000000 00000000 00000000", "00000000 00000000 00000000 00000000"},
		{"000000f0 030000f0 030000f0 030000f0", "00000000 00000000 00000000 00000000"},
		{"ffffff0f fcffff0f fcffff0f fcffff0f", "ffffff0f fcffff0f fcffff0f fcffff0f"},
		// RFC 8439, 2.5.2.
		{"85d6be78 57556d33 7f4452fe 42d506a8", "85d6be08 54556d03 7c44520e 40d50608"},
	} {
		if s, e := Clamp(unhex(t, c.r)); s != unhex(t, c.want) || e != api.OK {
			t.Errorf("%s: %x, %d; want %s", c.r, s, e, c.want)
		}
	}
}

// takenAway are the places of the bits, from 0 on, that a key's r loses.
var takenAway = []int{28, 29, 30, 31, 32, 33, 60, 61, 62, 63, 64, 65, 92, 93, 94, 95, 96, 97, 124, 125, 126, 127}

// TestClampBits follows each bit by itself, set alone and alone not set.
func TestClampBits(t *testing.T) {
	left, _ := Clamp(fulls(16))
	for bit := range 128 {
		alone := changed(zeros(16), bit/8, 1<<(bit%8))
		want, but := alone, changed(left, bit/8, 1<<(bit%8))
		if slices.Contains(takenAway, bit) {
			want, but = zeros(16), left
		}
		if s, e := Clamp(alone); s != want || e != api.OK {
			t.Errorf("bit %d: %x, %d; want %x", bit, s, e, want)
		}
		if s, e := Clamp(changed(fulls(16), bit/8, 1<<(bit%8))); s != but || e != api.OK {
			t.Errorf("all but bit %d: %x, %d; want %x", bit, s, e, but)
		}
	}
}

func TestClampMany(t *testing.T) {
	for seed := range uint64(500) {
		r := drawn(seed, 16)
		want := low(modelR(r), 16)
		if s, e := Clamp(r); s != want || e != api.OK {
			t.Errorf("%x: %x, %d; want %x", r, s, e, want)
		}
		if s, e := Clamp(want); s != want || e != api.OK {
			t.Errorf("%x a second time: %x, %d", want, s, e)
		}
	}
}

func TestClampWrongSizes(t *testing.T) {
	for _, n := range []int{0, 1, 8, 14, 15, 17, 18, 31, 32, 33, 1000} {
		for _, r := range []string{zeros(n), fulls(n), drawn(3, n)} {
			if s, e := Clamp(r); s != "" || e != api.ErrSize {
				t.Errorf("%d bytes: %x, %d", n, s, e)
			}
		}
	}
}

const ietf = "Any submission to the IETF intended by the Contributor for publication as all or part of an IETF Internet-Draft or RFC and any statement made within the context of an IETF activity is considered an \"IETF Contribution\". Such statements include oral statements in IETF sessions, as well as written and electronic communications made at any time or place, which are addressed to"

// tagCases are the chapter's example, which is RFC 8439's of section 2.5.2, and those of its appendix A.3.
var tagCases = []struct{ r, s, text, want string }{
	{"85d6be78 57556d33 7f4452fe 42d506a8", "0103808a fb0db2fd 4abff6af 4149f51b", "Cryptographic Forum Research Group", "a8061dc1 305136c6 c22b8baf 0c0127a9"},
	{"00000000000000000000000000000000", "00000000000000000000000000000000", zeros(64), "00000000000000000000000000000000"},
	{"00000000000000000000000000000000", "36e5f6b5c5e06070f0efca96227a863e", ietf, "36e5f6b5c5e06070f0efca96227a863e"},
	{"36e5f6b5c5e06070f0efca96227a863e", "00000000000000000000000000000000", ietf, "f3477e7cd95417af89a6b8794c310cf0"},
	{"1c9240a5eb55d38af333888604f6b5f0", "473917c1402b80099dca5cbc207075c0", "'Twas brillig, and the slithy toves\nDid gyre and gimble in the wabe:\nAll mimsy were the borogoves,\nAnd the mome raths outgrabe.", "4541669a7eaaee61e708dc7cbcc5eb62"},
	{"02000000000000000000000000000000", "00000000000000000000000000000000", fulls(16), "03000000000000000000000000000000"},
	{"02000000000000000000000000000000", "ffffffffffffffffffffffffffffffff", "\x02" + zeros(15), "03000000000000000000000000000000"},
	{"01000000000000000000000000000000", "00000000000000000000000000000000", fulls(16) + "\xf0" + fulls(15) + "\x11" + zeros(15), "05000000000000000000000000000000"},
	{"01000000000000000000000000000000", "00000000000000000000000000000000", fulls(16) + "\xfb" + strings.Repeat("\xfe", 15) + strings.Repeat("\x01", 16), "00000000000000000000000000000000"},
	{"02000000000000000000000000000000", "00000000000000000000000000000000", "\xfd" + fulls(15), "faffffffffffffffffffffffffffffff"},
	{"01000000000000000400000000000000", "00000000000000000000000000000000", "\xe3\x35\x94\xd7\x50\x5e\x43\xb9" + zeros(8) + "\x33\x94\xd7\x50\x5e\x43\x79\xcd\x01" + zeros(23) + "\x01" + zeros(15), "14000000000000005500000000000000"},
	{"01000000000000000400000000000000", "00000000000000000000000000000000", "\xe3\x35\x94\xd7\x50\x5e\x43\xb9" + zeros(8) + "\x33\x94\xd7\x50\x5e\x43\x79\xcd\x01" + zeros(23), "13000000000000000000000000000000"},
}

func TestTagCases(t *testing.T) {
	for i, c := range tagCases {
		key, want := unhex(t, c.r+c.s), unhex(t, c.want)
		if s, e := Tag(key, c.text); s != want || e != api.OK {
			t.Errorf("case %d: %x, %d; want %x", i, s, e, want)
		}
		if s := modelTag(key, c.text); s != want {
			t.Errorf("case %d: the model's %x, want %x", i, s, want)
		}
	}
}

// TestTagOfAnotherProgram holds tags about a block's end against those of another program: of bytes 255 alone, of rising bytes, and of bytes 0 by a rising key.
func TestTagOfAnotherProgram(t *testing.T) {
	for _, c := range []struct {
		n                    int
		full, rise, fromZero string
	}{
		{0, "ffffffffffffffffffffffffffffffff", "101112131415161718191a1b1c1d1e1f", "d8d9dadbdcdddedfe0e1e2e3e4e5e6e7"},
		{1, "23feffef23f8ffef23f8ffef23f8ffef", "1f11131517191b1d1f21232527292b2d", "dda1a4a6e8a9acaef0b1b4b6e8b9bcbe"},
		{15, "fbff27e6030028e6030028e6030028ee", "5305236ca07fc93d9ca416b23664fa50", "5297e91a5ea0f22367a9e72c70b2f0af"},
		{16, "fbffff17faffff17faffff17faffff17", "a2291a363def0b53845fa4126a6ad364", "125698ea1b5fa1f32468aae82d71b3f1"},
		{17, "7cfe7ff768f81f2763f8bf565df85f86", "f735c97f7308fd79222447fe76a96872", "1b5dac82e2de378b0dc01dd97dfbc290"},
		{31, "5400a8ed4800481d4300e84c3d008884", "7c57daa799d3d38243034a4af1f6ed2b", "8b52f1f657d57d0084b7504f05f4f681"},
		{32, "5400801f3f00204f3900c07e330060ae", "e4a30dc29abba238e086b49b2916f440", "4b11a0c615942cd04176130bc3b2b9c3"},
		{33, "86fa6a437bf4ec24a274504dc37495bc", "45b320cbeff5d7b485f3487c4d74dadd", "49ae276595f9edd46a01dc3d7b9e0551"},
		{47, "5efc92395bfc141b827c7843a37cbdba", "200233c4b225d7a54a2e5b8732d4152d", "bea36cd90af0334ae1f80eb402973942"},
		{48, "5efc6a6b51fcec4c787c5075997c95e4", "9776a22e188632fc9b7aa2c96f0c4943", "79621ba9c8aee2199fb7d16fc055fc83"},
		{49, "b80de303eb57a8afe6a0efbcf1db7e89", "302fcfab563ea5172989c7683708755e", "74cfba9426fe2b8a9941d8181d5218f0"},
		{63, "900f0bfaca5fd0a5c6a817b3d1e3a687", "61abe275b6d2ccf0911fe932877a6643", "e9c4ff089cf471ff0f390b8fa44a4ce1"},
		{64, "900fe32bc15fa8d7bca8efe4c7e37eb1", "ec478e3080abb4e797340d66c9cbc65a", "a483aed859b320cfcdf7cd4a62090f23"},
		{65, "e4d8b131f296fa0723796121694ffa18", "ded264fe6bf02b57de5b3a7fc23e076a", "f2c55de74ce657fc6cd546fccdd8ed84"},
		{1000, "de9406b10e7023bcd692ff687f4cbc7f", "ecaa2d79f8e517aadd3b498ccb0d7c62", "d6ab659e24135388b4dd65b797038063"},
		{65536, "f2ad07edc89ff60973326908105868fa", "22e0d9372aba8e4e018ab115e9db211a", "6ce1ff7f7b72789a41b92e115ac3e421"},
	} {
		for _, k := range []struct{ key, text, want string }{{fulls(32), fulls(c.n), c.full}, {rising(0, 32), rising(0, c.n), c.rise}, {rising(200, 32), zeros(c.n), c.fromZero}} {
			if s, e := Tag(k.key, k.text); hex.EncodeToString([]byte(s)) != k.want || e != api.OK {
				t.Errorf("key %x, %d bytes: %x, %d; want %s", k.key, c.n, s, e, k.want)
			}
		}
	}
	var all strings.Builder
	for n := range 300 {
		s, _ := Tag(rising(byte(n), 32), rising(byte(3*n), n))
		all.WriteString(s)
	}
	const want = "3afe451ebd070ee4d247c6309c21b50704c42ef9d214b1bc0b025910f6c16592"
	if sum := sha256.Sum256([]byte(all.String())); hex.EncodeToString(sum[:]) != want {
		t.Errorf("300 tags: of digest %x, want %s", sum, want)
	}
}

func TestTagSizes(t *testing.T) {
	for i, key := range edgeKeys() {
		for _, n := range edgeSizes {
			holdTag(t, key, fulls(n))
			holdTag(t, key, zeros(n))
			holdTag(t, key, drawn(uint64(1000*i+n), n))
		}
		for n := range 100 {
			holdTag(t, key, rising(byte(n+i), n))
		}
	}
}

// TestTagEdgeBytes takes keys and texts of bytes at whose ends parts overflow.
func TestTagEdgeBytes(t *testing.T) {
	edges := []byte{0, 0, 0xff, 0xff, 0xff, 1, 3, 4, 0x0f, 0xfc, 0xfb, 0xfe, 0x80, 0x7f}
	for seed := range uint64(3000) {
		b := []byte(drawn(seed, 32+int(seed%80)))
		for i := range b {
			b[i] = edges[int(b[i])%len(edges)]
		}
		holdTag(t, string(b[:32]), string(b[32:]))
	}
}

func TestTagOfALongText(t *testing.T) {
	holdTag(t, drawn(4, 32), drawn(5, 1<<20+3))
	holdTag(t, fulls(32), fulls(1<<20))
}

// near are steps about a number that matters.
var near = []int64{-17, -9, -8, -7, -6, -5, -4, -3, -2, -1, 0, 1, 2, 3, 4, 5, 6, 7, 8, 9, 17}

// TestSumNearTheModulus takes an r of 1, by which a is no more than the sum of the blocks: it is brought about once, twice and thrice 2^130 - 5, and about 2^130 by that.
func TestSumNearTheModulus(t *testing.T) {
	for times := int64(1); times <= 3; times++ {
		blocks := 4*times - 1 // each of which is 2^128 and its bytes' number
		for _, k := range near {
			rest := more(new(big.Int).Mul(modulus(), big.NewInt(times)), k)
			rest.Sub(rest, new(big.Int).Mul(power(128), big.NewInt(blocks)))
			var text strings.Builder
			for i := range blocks {
				part := new(big.Int).Div(rest, big.NewInt(blocks-i))
				text.WriteString(low(part, 16))
				rest.Sub(rest, part)
			}
			for _, s := range []string{zeros(16), fulls(16), drawn(6, 16)} {
				key := "\x01" + zeros(15) + s
				if a, want := modelSum(key, text.String()), new(big.Int).Mod(big.NewInt(k), modulus()); a.Cmp(want) != 0 {
					t.Fatalf("%d blocks, %d: the sum is %x, want %x", blocks, k, a, want)
				}
				holdTag(t, key, text.String())
			}
		}
	}
}

// TestSumNearTheModulusByAnyR looks for a last block by which a is near the modulus.
func TestSumNearTheModulusByAnyR(t *testing.T) {
	found := 0
	for seed := range uint64(100) {
		key, head := drawn(seed, 32), drawn(seed+100, 16*int(seed%4))
		back := new(big.Int).ModInverse(modelR(key), modulus())
		for _, k := range near {
			block := new(big.Int).Mul(big.NewInt(k), back)
			block.Sub(block, modelSum(key, head))
			block.Mod(block, modulus())
			block.Sub(block, power(128))
			if block.Sign() < 0 || block.Cmp(power(128)) >= 0 {
				continue
			}
			found++
			text := head + low(block, 16)
			if a, want := modelSum(key, text), new(big.Int).Mod(big.NewInt(k), modulus()); a.Cmp(want) != 0 {
				t.Fatalf("key %x, %d: the sum is %x, want %x", key, k, a, want)
			}
			holdTag(t, key, text)
			holdTag(t, key[:16]+zeros(16), text)
			holdTag(t, key[:16]+fulls(16), text)
		}
	}
	if found < 200 {
		t.Errorf("only %d sums were found", found)
	}
}

// TestSumBeyond128Bits brings a + s about 2^128 and its multiples: an a of more than 128 bits goes beyond by itself.
func TestSumBeyond128Bits(t *testing.T) {
	above := 0
	for seed := range uint64(50) {
		r, text := drawn(seed, 16), drawn(seed+100, 1+int(seed))
		a := modelSum(r+zeros(16), text)
		if a.Cmp(power(128)) >= 0 {
			above++
		}
		for _, k := range near {
			s := low(more(new(big.Int).Neg(a), k), 16)
			key, want := r+s, low(big.NewInt(k), 16)
			if tag, e := Tag(key, text); tag != want || e != api.OK {
				t.Errorf("key %x, text %x: %x, %d; want %x", key, text, tag, e, want)
			}
			holdTag(t, key, text)
		}
	}
	if above < 20 {
		t.Errorf("only %d sums have more than 128 bits", above)
	}
}

func TestWrongKey(t *testing.T) {
	for _, n := range wrongSizes {
		for _, key := range []string{zeros(n), fulls(n), drawn(7, n)} {
			for _, text := range []string{"", "x", zeros(16), ietf} {
				if s, e := Tag(key, text); s != "" || e != api.ErrSize {
					t.Errorf("key of %d bytes, text of %d: %x, %d", n, len(text), s, e)
				}
			}
			if p, e := New(key); p != nil || e != api.ErrSize {
				t.Errorf("key of %d bytes: %v, %d", n, p, e)
			}
		}
	}
}

// TestCheckWrongKey asks for what such a key might be taken for: that it is filled up, or cut.
func TestCheckWrongKey(t *testing.T) {
	for _, n := range wrongSizes {
		key := drawn(8, n)
		as := []string{(key + zeros(32))[:32], (zeros(32) + key)[len(key):]}
		for _, text := range []string{"", "x", zeros(16), ietf} {
			tags := []string{"", zeros(16), fulls(16), modelTag(as[0], text), modelTag(as[1], text), key}
			for _, tag := range tags {
				if Check(key, text, tag) {
					t.Errorf("key of %d bytes, text of %d: %x is right", n, len(text), tag)
				}
			}
		}
	}
}

func TestCheckWrongTag(t *testing.T) {
	key, text := drawn(9, 32), "a text"
	right := modelTag(key, text)
	if !Check(key, text, right) {
		t.Fatalf("%x isn't right", right)
	}
	for n := range len(right) {
		for _, tag := range []string{right[:n], right[len(right)-n:], right[:n] + zeros(16-n)} {
			if Check(key, text, tag) {
				t.Errorf("of %x, %x is right", right, tag)
			}
		}
		for x := 1; x < 256; x++ {
			if Check(key, text, changed(right, n, byte(x))) {
				t.Errorf("byte %d turned by %d is right", n, x)
			}
		}
	}
	for _, extra := range []string{"\x00", "a", zeros(16), right} {
		if Check(key, text, right+extra) || Check(key, text, extra+right) {
			t.Errorf("right with %x", extra)
		}
	}
	if Check(key, text, hex.EncodeToString([]byte(right))) {
		t.Error("digits are right")
	}
	// A tag that ends, or begins, with bytes 0 isn't right without them.
	if zero := zeros(32); !Check(zero, text, zeros(16)) || Check(zero, text, zeros(15)) || Check(zero, text, zeros(17)) || Check(zero, text, "") {
		t.Error("bytes 0 don't matter")
	}
}

func TestCheckWrongText(t *testing.T) {
	for _, n := range edgeSizes[:20] {
		key, text := drawn(10, 32), drawn(uint64(n), n)
		right := modelTag(key, text)
		for i := range n {
			if Check(key, changed(text, i, 1), right) || Check(key, text[:i], right) || Check(key, text[i+1:], right) {
				t.Errorf("text of %d bytes: right where byte %d is another", n, i)
			}
		}
		for _, extra := range []string{"\x00", "\x01", "x", zeros(15), zeros(16)} {
			if Check(key, text+extra, right) || Check(key, extra+text, right) {
				t.Errorf("text of %d bytes: right with %x", n, extra)
			}
		}
	}
}

// TestZerosBehind: bytes 0 behind a text are of it, and so is a byte 1.
func TestZerosBehind(t *testing.T) {
	key := drawn(11, 32)
	tags := map[string]string{}
	for _, head := range []string{"", "x"} {
		for n := range 40 {
			for _, text := range []string{head + zeros(n), head + zeros(n) + "\x01"} {
				s, _ := Tag(key, text)
				if other, ok := tags[s]; ok {
					t.Errorf("texts %x and %x: both %x", text, other, s)
				}
				tags[s] = text
			}
		}
	}
}

// P5.2

func TestPolyOfNothing(t *testing.T) {
	for _, key := range edgeKeys() {
		p, e := New(key)
		if e != api.OK {
			t.Fatalf("%x: %d", key, e)
		}
		for range 3 {
			if s := p.Tag(); s != key[16:] {
				t.Errorf("%x: %x", key, s)
			}
			p.Add("")
		}
	}
}

// TestPolyGoesOn asks behind each byte, twice, and adds nothing between.
func TestPolyGoesOn(t *testing.T) {
	for i, key := range edgeKeys() {
		text := drawn(uint64(i)+500, 100)
		p, _ := New(key)
		for n := range len(text) {
			p.Add(text[n : n+1])
			first := p.Tag()
			p.Add("")
			if second, want := p.Tag(), modelTag(key, text[:n+1]); first != want || second != want {
				t.Errorf("key %x, %d bytes: %x, and then %x; want %x", key, n+1, first, second, want)
			}
		}
	}
}

// P5.3

// TestPolyParts parts texts in three in all ways, and asks between or doesn't.
func TestPolyParts(t *testing.T) {
	for _, key := range []string{fulls(32), drawn(12, 32)} {
		for _, n := range []int{0, 1, 15, 16, 17, 31, 32, 33, 48, 50} {
			text := drawn(uint64(n)+13, n)
			want := modelTag(key, text)
			for i := range n + 1 {
				for k := i; k <= n; k++ {
					quiet, _ := New(key)
					asked, _ := New(key)
					for _, part := range []string{text[:i], text[i:k], text[k:]} {
						quiet.Add(part)
						asked.Add(part)
						asked.Tag()
					}
					if q, a := quiet.Tag(), asked.Tag(); q != want || a != want {
						t.Fatalf("key %x, %d bytes parted at %d and %d: %x, asked between %x; want %x", key, n, i, k, q, a, want)
					}
				}
			}
		}
	}
}

func TestPolyLongParts(t *testing.T) {
	key, text := drawn(14, 32), drawn(15, 5000)
	for size := 1; size < len(text); size += 1 + size/3 {
		p, _ := New(key)
		for at := 0; at < len(text); at += size {
			end := min(at+size, len(text))
			p.Add(text[at:end])
			if size > 40 {
				if s, want := p.Tag(), modelTag(key, text[:end]); s != want {
					t.Errorf("parts of %d bytes, %d bytes in all: %x, want %x", size, end, s, want)
				}
			}
		}
		if s, want := p.Tag(), modelTag(key, text); s != want {
			t.Errorf("parts of %d bytes: %x, want %x", size, s, want)
		}
	}
}

// TestPolysApart lets several go on by turns: none knows of another.
func TestPolysApart(t *testing.T) {
	keys := edgeKeys()
	var polys []*Poly
	for _, key := range keys {
		p, _ := New(key)
		polys = append(polys, p)
	}
	added := make([]string, len(keys))
	for step := range 60 {
		for i, p := range polys {
			part := drawn(uint64(step*100+i), (step*7+i*5)%23)
			p.Add(part)
			added[i] += part
		}
		i := step % len(keys)
		if s, want := polys[i].Tag(), modelTag(keys[i], added[i]); s != want {
			t.Errorf("key %x, %d bytes: %x, want %x", keys[i], len(added[i]), s, want)
		}
	}
	for i, p := range polys {
		if s, want := p.Tag(), modelTag(keys[i], added[i]); s != want {
			t.Errorf("key %x, %d bytes at the end: %x, want %x", keys[i], len(added[i]), s, want)
		}
	}
}

// TestTakenAwayBits turns each bit of a key's r: one that is taken away is no matter, each other one is.
func TestTakenAwayBits(t *testing.T) {
	for _, key := range []string{zeros(32), fulls(32), drawn(16, 32), drawn(17, 32)} {
		for _, text := range []string{"x", fulls(16), ietf} {
			want, _ := Tag(key, text)
			for bit := range 128 {
				other := changed(key, bit/8, 1<<(bit%8))
				s, e := Tag(other, text)
				p, _ := New(other)
				p.Add(text)
				same := slices.Contains(takenAway, bit)
				if (s == want) != same || (p.Tag() == want) != same || Check(other, text, want) != same || e != api.OK {
					t.Errorf("key %x, bit %d: %x, %d; was %x", key, bit, s, e, want)
				}
			}
		}
	}
}

// TestZeroR takes an r of no bits, of such as are taken away, and of all of these.
func TestZeroR(t *testing.T) {
	rs := []string{zeros(16), "\x00\x00\x00\xf0\x03\x00\x00\xf0\x03\x00\x00\xf0\x03\x00\x00\xf0"}
	for _, bit := range takenAway {
		rs = append(rs, changed(zeros(16), bit/8, 1<<(bit%8)))
	}
	for _, r := range rs {
		for _, s := range []string{zeros(16), fulls(16), "abcdefghijklmnop"} {
			for _, n := range edgeSizes {
				if tag, e := Tag(r+s, drawn(18, n)); tag != s || e != api.OK {
					t.Errorf("r %x, s %x, %d bytes: %x, %d", r, s, n, tag, e)
				}
			}
		}
	}
}

// TestOtherS: the tag is more by as much as s, and goes round at 2^128.
func TestOtherS(t *testing.T) {
	for seed := range uint64(100) {
		r, text := drawn(seed, 16), drawn(seed+100, int(seed))
		first, _ := Tag(r+zeros(16), text)
		for _, s := range []string{"\x01" + zeros(15), zeros(15) + "\x80", fulls(16), zeros(8) + fulls(8), fulls(8) + zeros(8), drawn(seed+200, 16)} {
			want := low(new(big.Int).Add(fromLow(first), fromLow(s)), 16)
			if tag, e := Tag(r+s, text); tag != want || e != api.OK {
				t.Errorf("r %x, s %x, text %x: %x, %d; want %x", r, s, text, tag, e, want)
			}
		}
	}
}

// Of the numbers within.

// value tells what a number's parts are together.
func value(x number) *big.Int {
	v := new(big.Int)
	for i, part := range x {
		v.Add(v, new(big.Int).Lsh(new(big.Int).SetUint64(part), uint(26*i)))
	}
	return v
}

// edgeNumbers tells all numbers whose parts are of these.
func edgeNumbers(edges ...uint64) []number {
	all := []number{{}}
	for i := range parts {
		var longer []number
		for _, x := range all {
			for _, part := range edges {
				x[i] = part
				longer = append(longer, x)
			}
		}
		all = longer
	}
	return all
}

// holdWrapped holds a number that was wrapped against what it was.
func holdWrapped(t *testing.T, x number, was *big.Int) {
	t.Helper()
	for i, part := range x {
		if part > partMask {
			t.Errorf("%x: part %d is %#x", was, i, part)
		}
	}
	rest := new(big.Int).Mod(was, modulus())
	if v := new(big.Int).Mod(value(x), modulus()); v.Cmp(rest) != 0 {
		t.Errorf("%x: %x, want %x", was, v, rest)
	}
	if v := value(least(x)); v.Cmp(rest) != 0 {
		t.Errorf("%x: at last %x, want %x", was, v, rest)
	}
}

func TestTimesAtPartsEnds(t *testing.T) {
	xs := edgeNumbers(0, 1, partMask, 2*partMask+1)
	ys := edgeNumbers(0, 1, partMask)
	for i, x := range xs {
		for k := i % 7; k < len(ys); k += 7 {
			holdWrapped(t, times(x, ys[k]), new(big.Int).Mul(value(x), value(ys[k])))
		}
	}
	most := number{2*partMask + 1, 2*partMask + 1, 2*partMask + 1, 2*partMask + 1, 2*partMask + 1}
	holdWrapped(t, times(most, most), new(big.Int).Mul(value(most), value(most)))
}

func TestWrappedAtPartsEnds(t *testing.T) {
	for _, x := range edgeNumbers(0, 1, partMask-4, partMask, partMask+1, 1<<58-1) {
		holdWrapped(t, wrapped(x), value(x))
	}
}

func TestLeastNearTheModulus(t *testing.T) {
	for k := int64(-40); k <= 4; k++ {
		v := more(modulus(), k)
		x := read(low(v, 17))
		holdWrapped(t, x, v)
	}
	for k := range uint64(40) {
		holdWrapped(t, number{k}, new(big.Int).SetUint64(k))
	}
}

func TestReadAndTold(t *testing.T) {
	for bit := range 136 {
		bytes := changed(zeros(17), bit/8, 1<<(bit%8))
		want := new(big.Int).Mod(power(bit), power(130))
		x := read(bytes)
		if v := value(x); v.Cmp(want) != 0 {
			t.Errorf("bit %d: %x", bit, v)
		}
		if s := told(x); s != low(want, 16) {
			t.Errorf("bit %d: told as %x", bit, s)
		}
	}
	for n := 1; n <= 17; n++ {
		bytes := drawn(uint64(n)+19, n)
		want := new(big.Int).Mod(fromLow(bytes), power(130))
		x := read(bytes)
		if v := value(x); v.Cmp(want) != 0 || told(x) != low(want, 16) {
			t.Errorf("%x: %x, told as %x", bytes, v, told(x))
		}
	}
}

// TestAgain asks the same thing twice, with others between: nothing is kept from call to call.
func TestAgain(t *testing.T) {
	key, text := drawn(20, 32), drawn(21, 100)
	ask := func() string {
		c, _ := Clamp(key[:16])
		s, _ := Tag(key, text)
		p, _ := New(key)
		p.Add(text)
		return c + s + p.Tag()
	}
	first := ask()
	Clamp(fulls(16))
	Tag(fulls(32), fulls(1000))
	Tag("", "")
	Check(key, text, "")
	if second := ask(); second != first || len(first) != 48 {
		t.Errorf("%x, and then %x", first, second)
	}
}
