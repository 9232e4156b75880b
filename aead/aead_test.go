package aead

import (
	"crypto/sha256"
	"encoding/binary"
	"encoding/hex"
	"math/big"
	"math/bits"
	"slices"
	"strings"
	"testing"

	"posthorn/api"
)

// drawn tells n bytes that look like chance, others of another seed, and the same in each run.
func drawn(seed uint64, n int) string {
	b := make([]byte, n)
	for i := range b {
		seed = seed*6364136223846793005 + 1442695040888963407
		b[i] = byte(seed >> 56)
	}
	return string(b)
}

// rising tells n bytes, each one more than the one ahead.
func rising(from byte, n int) string {
	b := make([]byte, n)
	for i := range b {
		b[i] = from + byte(i)
	}
	return string(b)
}

func zeros(n int) string {
	return strings.Repeat("\x00", n)
}

func fulls(n int) string {
	return strings.Repeat("\xff", n)
}

// changed tells s with byte i turned by x.
func changed(s string, i int, x byte) string {
	b := []byte(s)
	b[i] ^= x
	return string(b)
}

func unhex(t *testing.T, s string) string {
	t.Helper()
	b, err := hex.DecodeString(strings.ReplaceAll(s, " ", ""))
	if err != nil {
		t.Fatal(err)
	}
	return string(b)
}

// modelStir stirs the numbers at four places of x.
func modelStir(x []uint32, a, b, c, d int) {
	x[a] += x[b]
	x[d] = bits.RotateLeft32(x[d]^x[a], 16)
	x[c] += x[d]
	x[b] = bits.RotateLeft32(x[b]^x[c], 12)
	x[a] += x[b]
	x[d] = bits.RotateLeft32(x[d]^x[a], 8)
	x[c] += x[d]
	x[b] = bits.RotateLeft32(x[b]^x[c], 7)
}

// modelBlock tells a block of chacha, by that chapter's words.
func modelBlock(key string, counter uint32, nonce string) string {
	first := make([]uint32, 16)
	all := "expand 32-byte k" + key + string(binary.LittleEndian.AppendUint32(nil, counter)) + nonce
	for i := range first {
		first[i] = binary.LittleEndian.Uint32([]byte(all[4*i:]))
	}
	x := slices.Clone(first)
	for range 10 {
		for i := range 4 {
			modelStir(x, i, 4+i, 8+i, 12+i)
		}
		for i := range 4 {
			modelStir(x, i, 4+(i+1)%4, 8+(i+2)%4, 12+(i+3)%4)
		}
	}
	var b []byte
	for i := range x {
		b = binary.LittleEndian.AppendUint32(b, x[i]+first[i])
	}
	return string(b)
}

// modelTurn turns a text from the counter 1 on.
func modelTurn(key, nonce, text string) string {
	b := []byte(text)
	for i := range b {
		if i%64 == 0 {
			block := modelBlock(key, uint32(1+i/64), nonce)
			for k := i; k < min(i+64, len(b)); k++ {
				b[k] ^= block[k-i]
			}
		}
	}
	return string(b)
}

// fromLow tells the number of bytes from the low end.
func fromLow(s string) *big.Int {
	b := []byte(s)
	slices.Reverse(b)
	return new(big.Int).SetBytes(b)
}

// modelPoly tells a tag of poly, by that chapter's words.
func modelPoly(key, text string) string {
	b := []byte(key[:16])
	for _, i := range []int{3, 7, 11, 15} {
		b[i] %= 16
	}
	for _, i := range []int{4, 8, 12} {
		b[i] -= b[i] % 4
	}
	r, a := fromLow(string(b)), new(big.Int)
	power := func(n int) *big.Int { return new(big.Int).Lsh(big.NewInt(1), uint(n)) }
	modulus := power(130)
	modulus.Sub(modulus, big.NewInt(5))
	for len(text) > 0 {
		n := min(16, len(text))
		a.Add(a, fromLow(text[:n]))
		a.Add(a, power(8*n))
		a.Mul(a, r)
		a.Mod(a, modulus)
		text = text[n:]
	}
	a.Add(a, fromLow(key[16:]))
	a.Mod(a, power(128))
	tag := a.FillBytes(make([]byte, 16))
	slices.Reverse(tag)
	return string(tag)
}

// modelCovered tells what a tag covers, by the chapter's words.
func modelCovered(data, sealed string) string {
	b := []byte(data)
	for len(b)%16 != 0 {
		b = append(b, 0)
	}
	b = append(b, sealed...)
	for len(b)%16 != 0 {
		b = append(b, 0)
	}
	b = binary.LittleEndian.AppendUint64(b, uint64(len(data)))
	b = binary.LittleEndian.AppendUint64(b, uint64(len(sealed)))
	return string(b)
}

// modelTagged tells bytes with the tag behind them that they have, whatever they are.
func modelTagged(key, nonce, data, turned string) string {
	return turned + modelPoly(modelBlock(key, 0, nonce)[:32], modelCovered(data, turned))
}

// modelSeal tells a text sealed, by the chapter's words.
func modelSeal(key, nonce, data, text string) string {
	return modelTagged(key, nonce, data, modelTurn(key, nonce, text))
}

// holdSeal holds a text sealed against the model, and opens it.
func holdSeal(t *testing.T, key, nonce, data, text string) {
	t.Helper()
	want := modelSeal(key, nonce, data, text)
	s, e := Seal(key, nonce, data, text)
	if s != want || e != api.OK {
		t.Errorf("key %x, nonce %x, data of %d bytes, text of %d: %x, %d; want %x", key, nonce, len(data), len(text), s, e, want)
	}
	if len(s) != len(text)+16 {
		t.Errorf("data of %d bytes, text of %d: sealed has %d", len(data), len(text), len(s))
	}
	if u, e := Open(key, nonce, data, want); u != text || e != api.OK {
		t.Errorf("key %x, nonce %x, data of %d bytes, text of %d: opened to %x, %d; want %x", key, nonce, len(data), len(text), u, e, text)
	}
}

// refused holds that sealed bytes aren't what was sealed.
func refused(t *testing.T, what, key, nonce, data, sealed string) {
	t.Helper()
	if u, e := Open(key, nonce, data, sealed); u != "" || e != api.ErrTag {
		t.Errorf("%s: opened to %d bytes, %d; want none, %d", what, len(u), e, api.ErrTag)
	}
}

// sizes are those about the end of what is filled up, and of a block.
var sizes = []int{0, 1, 15, 16, 17, 63, 64, 65}

// wrongKeySizes and wrongNonceSizes are of what isn't a key, or a nonce.
var (
	wrongKeySizes   = []int{0, 1, 12, 16, 24, 30, 31, 33, 34, 64, 1000}
	wrongNonceSizes = []int{0, 1, 8, 10, 11, 13, 14, 16, 24, 32, 1000}
)

// RFC 8439, 2.8.2; the chapter's example has its key, its nonce, and the beginning of its text.
const (
	ladies       = "Ladies and Gentlemen of the class of '99: If I could offer you only one tip for the future, sunscreen would be it."
	ladiesNonce  = "\x07\x00\x00\x00\x40\x41\x42\x43\x44\x45\x46\x47"
	ladiesData   = "\x50\x51\x52\x53\xc0\xc1\xc2\xc3\xc4\xc5\xc6\xc7"
	ladiesSealed = "d31a8d34648e60db7b86afbc53ef7ec2a4aded51296e08fea9e2b5a736ee62d63dbea45e8ca9671282fafb69da92728b1a71de0a9e060b2905d6a5b67ecd3b3692ddbd7f2d778b8c9803aee328091b58fab324e4fad675945585808b4831d7bc3ff4def08e4b7a9de576d26586cec64b6116 1ae10b594f09e26a7e902ecbd0600691"
)

// RFC 8439, A.5.
const (
	draftsKey    = "1c9240a5eb55d38af333888604f6b5f0473917c1402b80099dca5cbc207075c0"
	draftsNonce  = "000000000102030405060708"
	draftsData   = "f33388860000000000004e91"
	drafts       = "Internet-Drafts are draft documents valid for a maximum of six months and may be updated, replaced, or obsoleted by other documents at any time. It is inappropriate to use Internet-Drafts as reference material or to cite them other than as /\xe2\x80\x9cwork in progress./\xe2\x80\x9d"
	draftsSealed = "64a0861575861af460f062c79be643bd5e805cfd345cf389f108670ac76c8cb24c6cfc18755d43eea09ee94e382d26b0bdb7b73c321b0100d4f03b7f355894cf332f830e710b97ce98c8a84abd0b948114ad176e008d33bd60f982b1ff37c8559797a06ef4f0ef61c186324e2b3506383606907b6a7c02b0f9f6157b53c867e4b9166c767b804d46a59b5216cde7a4e99040c5a40433225ee282a1b0a06c523eaf4534d7f83fa1155b0047718cbc546a0d072b04b3564eea1b422273f548271a0bb2316053fa76991955ebd63159434ecebb4e466dae5a1073a6727627097a1049e617d91d361094fa68f0ff77987130305beaba2eda04df997b714d6c6f2c29a6ad5cb4022b02709b eead9d67890cbb22392336fea1851f38"
)

// P6.1

// TestOnceCases has RFC 8439's of section 2.8.2 and of appendix A.4.
func TestOnceCases(t *testing.T) {
	for _, c := range []struct{ key, nonce, want string }{
		{"808182838485868788898a8b8c8d8e8f909192939495969798999a9b9c9d9e9f", "070000004041424344454647", "7bac2b252db447af09b67a55a4e955840ae1d6731075d9eb2a9375783ed553ff"},
		{"808182838485868788898a8b8c8d8e8f909192939495969798999a9b9c9d9e9f", "000000000001020304050607", "8ad5a08b905f81cc815040274ab29471a833b637e3fd0da508dbb8e2fdd1a646"},
		{"0000000000000000000000000000000000000000000000000000000000000000", "000000000000000000000000", "76b8e0ada0f13d90405d6ae55386bd28bdd219b8a08ded1aa836efcc8b770dc7"},
		{"0000000000000000000000000000000000000000000000000000000000000001", "000000000000000000000002", "ecfa254f845f647473d3cb140da9e87606cb33066c447b87bc2666dde3fbb739"},
		{draftsKey, "000000000000000000000002", "965e3bc6f9ec7ed9560808f4d229f94b137ff275ca9b3fcbdd59deaad23310ae"},
	} {
		key, nonce, want := unhex(t, c.key), unhex(t, c.nonce), unhex(t, c.want)
		if s, e := Once(key, nonce); s != want || e != api.OK {
			t.Errorf("%s, %s: %x, %d; want %s", c.key, c.nonce, s, e, c.want)
		}
		if s := modelBlock(key, 0, nonce)[:32]; s != want {
			t.Errorf("%s, %s: the model's %x, want %s", c.key, c.nonce, s, c.want)
		}
	}
}

func TestOnceMany(t *testing.T) {
	for seed := range uint64(200) {
		key, nonce := drawn(seed, 32), drawn(seed+1000, 12)
		want := modelBlock(key, 0, nonce)[:32]
		if s, e := Once(key, nonce); s != want || e != api.OK {
			t.Errorf("%x, %x: %x, %d; want %x", key, nonce, s, e, want)
		}
	}
}

func TestCoveredCases(t *testing.T) {
	for _, c := range []struct{ data, sealed, want string }{
		{"", "", zeros(16)},
		{"a", "", "a" + zeros(15) + "\x01" + zeros(15)},
		{"", "a", "a" + zeros(15) + zeros(8) + "\x01" + zeros(7)},
		{"abc", "xy", "abc" + zeros(13) + "xy" + zeros(14) + "\x03" + zeros(7) + "\x02" + zeros(7)},
		{rising(0, 15), rising(0, 16), rising(0, 15) + "\x00" + rising(0, 16) + "\x0f" + zeros(7) + "\x10" + zeros(7)},
		{rising(0, 16), rising(0, 15), rising(0, 16) + rising(0, 15) + "\x00" + "\x10" + zeros(7) + "\x0f" + zeros(7)},
		{rising(0, 17), "", rising(0, 17) + zeros(15) + "\x11" + zeros(15)},
		{zeros(16), zeros(32), zeros(48) + "\x10" + zeros(7) + "\x20" + zeros(7)},
		{fulls(256), fulls(4096), fulls(4352) + "\x00\x01" + zeros(6) + "\x00\x10" + zeros(6)},
		{ladiesData, rising(1, 114), ladiesData + zeros(4) + rising(1, 114) + zeros(14) + "\x0c" + zeros(7) + "\x72" + zeros(7)},
	} {
		if s := Covered(c.data, c.sealed); s != c.want {
			t.Errorf("%x, %x: %x, want %x", c.data, c.sealed, s, c.want)
		}
	}
}

func TestCoveredSizes(t *testing.T) {
	all := append([]int{2, 14, 18, 31, 32, 33, 255, 256, 257, 4095, 4096, 4097, 16383, 16384, 16385, 65537}, sizes...)
	for _, d := range all {
		for _, n := range all {
			data, sealed := drawn(uint64(d), d), drawn(uint64(n)+1, n)
			if Covered(data, sealed) != modelCovered(data, sealed) {
				t.Errorf("data of %d bytes, sealed of %d: %d bytes, not the model's", d, n, len(Covered(data, sealed)))
			}
		}
	}
}

// TestCoveredHasNoLimit takes as many bytes as need more than three to tell how many they are.
func TestCoveredHasNoLimit(t *testing.T) {
	data, sealed := drawn(1, 1<<24+1), drawn(2, 1<<24+256)
	if Covered(data, sealed) != modelCovered(data, sealed) {
		t.Error("not the model's")
	}
}

// TestCoveredParted parts the same bytes at each place, and lays bytes 0 where they might be filled up.
func TestCoveredParted(t *testing.T) {
	for _, all := range []string{zeros(48), drawn(3, 48), drawn(4, 33)} {
		seen := map[string]int{}
		for n := range len(all) + 1 {
			s := Covered(all[:n], all[n:])
			if k, ok := seen[s]; ok {
				t.Errorf("%x: parted at %d as at %d", all, n, k)
			}
			seen[s] = n
		}
	}
	for n := range 16 {
		if Covered("abc"+zeros(n), "x") == Covered("abc", "x") && n > 0 || Covered("x", "abc"+zeros(n)) == Covered("x", "abc") && n > 0 {
			t.Errorf("%d bytes 0 behind are no matter", n)
		}
	}
}

func TestExample(t *testing.T) {
	s, e := Seal(rising(128, 32), ladiesNonce, "", "Ladies")
	if want := unhex(t, "d31a8d34648e 318d4bb8380fd1480b9c5bfe77fa029a"); s != want || e != api.OK {
		t.Errorf("%x, %d; want %x", s, e, want)
	}
	for _, n := range sizes {
		s, e := Seal(rising(128, 32), ladiesNonce, drawn(5, n), "Ladies")
		if len(s) != 22 || !strings.HasPrefix(s, "\xd3\x1a\x8d\x34\x64\x8e") || e != api.OK {
			t.Errorf("data of %d bytes: %x, %d", n, s, e)
		}
	}
}

func TestSealCases(t *testing.T) {
	for i, c := range []struct{ key, nonce, data, text, sealed string }{
		{rising(128, 32), ladiesNonce, ladiesData, ladies, ladiesSealed},
		{unhex(t, draftsKey), unhex(t, draftsNonce), unhex(t, draftsData), drafts, draftsSealed},
		{rising(128, 32), ladiesNonce, "", "", "a0784d7a4716f3feb4f64e7f4b39bf04"},
	} {
		want := unhex(t, c.sealed)
		if s, e := Seal(c.key, c.nonce, c.data, c.text); s != want || e != api.OK {
			t.Errorf("case %d: %x, %d; want %x", i, s, e, want)
		}
		if u, e := Open(c.key, c.nonce, c.data, want); u != c.text || e != api.OK {
			t.Errorf("case %d: opened to %q, %d", i, u, e)
		}
		if s := modelSeal(c.key, c.nonce, c.data, c.text); s != want {
			t.Errorf("case %d: the model's %x, want %x", i, s, want)
		}
	}
}

// TestSealOfAnotherProgram holds tags and sealed bytes against those of another program.
func TestSealOfAnotherProgram(t *testing.T) {
	for _, c := range []struct {
		n          int
		rise, full string
	}{
		{0, "b31216e35d82eb085bbef130e60900c1", "0b5528ab3ff425fbf1fce9fcfb979029"},
		{1, "bc0f8d9188d968a67a1f24e87c954ba9", "95eb08395e4bfd61c26ee7fb149c9217"},
		{15, "df69c298b81073d3d4018c2448f05706", "b52e02ddbc52160c68afea3924dbe0ba"},
		{16, "0bd540e2b1951342ec5ac7901d2f6468", "6a6529f809d4d6ec9ad43a2406d7a71b"},
		{17, "ce4fe1bcd59474ae98609f4e6fdf9b72", "4a6a10760c0b6f07c44a2e39394b969c"},
		{63, "b7466e42bf492c13f0b6817abfa45ea8", "4b0b4dfa8afaa7ff9a958af871378523"},
		{64, "6f845d579f66ca94c6a5875d2ebd6a92", "e914c45640e9a27f70cda53759bfa7a2"},
		{65, "3fd404b9ec2795d73efe672d3058db72", "0057cbdfc61a223aca40087cd4662d9c"},
		{api.MaxData, "f0eba50e845b6c251c7ebfaa4bb91fd5", "e9ea82dbe13ad5977d0198ad80939de3"},
		{api.MaxText, "621f1d36224e7cff83404ebb60e375db", "f57f866b55d7d983c5c5b3dd3f282eaf"},
	} {
		d := min(c.n, api.MaxData)
		for _, k := range []struct{ key, nonce, data, text, tag string }{
			{rising(0, 32), rising(50, 12), rising(7, d), rising(9, c.n), c.rise},
			{fulls(32), fulls(12), fulls(d), zeros(c.n), c.full},
		} {
			s, e := Seal(k.key, k.nonce, k.data, k.text)
			if len(s) != c.n+16 || hex.EncodeToString([]byte(s[len(s)-16:])) != k.tag || e != api.OK {
				t.Errorf("key %x, %d bytes: %d, %d, the tag isn't %s", k.key, c.n, len(s), e, k.tag)
			}
		}
	}
	var all strings.Builder
	for _, d := range sizes {
		for _, n := range sizes {
			s, _ := Seal(rising(byte(d), 32), rising(byte(n), 12), rising(byte(3*d), d), rising(byte(5*n), n))
			all.WriteString(s)
		}
	}
	greatest, _ := Seal(rising(1, 32), rising(2, 12), rising(3, api.MaxData), rising(4, api.MaxText))
	for _, c := range []struct{ bytes, want string }{
		{all.String(), "b38c62d4cfdebbdaed445591ae8f18d6310c0ec963f2140999829b9a67b1bb15"},
		{greatest, "2440e930e3352233c61e7a1880ae19d6efd16582c37695b6582606806074a61b"},
	} {
		if sum := sha256.Sum256([]byte(c.bytes)); hex.EncodeToString(sum[:]) != c.want {
			t.Errorf("%d bytes: of digest %x, want %s", len(c.bytes), sum, c.want)
		}
	}
}

func TestSealSizes(t *testing.T) {
	for _, d := range sizes {
		for _, n := range sizes {
			for _, key := range []string{zeros(32), fulls(32), drawn(uint64(100*d+n), 32)} {
				for _, nonce := range []string{zeros(12), fulls(12), drawn(uint64(d+100*n), 12)} {
					holdSeal(t, key, nonce, drawn(6, d), drawn(7, n))
				}
			}
			holdSeal(t, drawn(8, 32), drawn(9, 12), zeros(d), zeros(n))
			holdSeal(t, drawn(8, 32), drawn(9, 12), fulls(d), fulls(n))
		}
	}
}

func TestSealGreatest(t *testing.T) {
	for _, d := range []int{0, 1, api.MaxData - 16, api.MaxData - 1, api.MaxData} {
		for _, n := range []int{0, 1, api.MaxText - 64, api.MaxText - 1, api.MaxText} {
			holdSeal(t, drawn(10, 32), drawn(11, 12), drawn(12, d), drawn(13, n))
		}
	}
}

func TestSealMany(t *testing.T) {
	for seed := range uint64(500) {
		n := drawn(seed, 2)
		holdSeal(t, drawn(seed+1, 32), drawn(seed+2, 12), drawn(seed+3, int(n[0])), drawn(seed+4, int(n[1])))
	}
}

// tooLong has data and texts that are too long, the data by themselves, the text by itself, and both.
func tooLong() [][2]string {
	return [][2]string{
		{zeros(api.MaxData + 1), ""},
		{drawn(14, api.MaxData+1), "x"},
		{drawn(14, api.MaxData+1), drawn(15, api.MaxText)},
		{drawn(14, api.MaxText), ""},
		{"", zeros(api.MaxText + 1)},
		{"x", drawn(16, api.MaxText+1)},
		{drawn(14, api.MaxData), drawn(16, api.MaxText+1)},
		{"", drawn(16, api.MaxText+17)},
		{"", drawn(16, 1<<16+1)},
		{drawn(14, api.MaxData+1), drawn(16, api.MaxText+1)},
		{drawn(14, 1<<20), drawn(16, 1<<20)},
	}
}

func TestSealTooLong(t *testing.T) {
	for _, c := range tooLong() {
		if s, e := Seal(drawn(17, 32), drawn(18, 12), c[0], c[1]); s != "" || e != api.ErrSize {
			t.Errorf("data of %d bytes, text of %d: %d, %d", len(c[0]), len(c[1]), len(s), e)
		}
	}
}

// wrongPairs has keys and nonces of which one has a wrong size, or both.
func wrongPairs() [][2]string {
	var pairs [][2]string
	for _, k := range wrongKeySizes {
		pairs = append(pairs, [2]string{drawn(19, k), drawn(20, 12)})
		for _, n := range wrongNonceSizes {
			pairs = append(pairs, [2]string{drawn(19, k), drawn(20, n)}, [2]string{zeros(k), zeros(n)})
		}
	}
	for _, n := range wrongNonceSizes {
		pairs = append(pairs, [2]string{drawn(19, 32), drawn(20, n)})
	}
	// Together they have as many bytes as they should.
	return append(pairs, [2]string{drawn(19, 12), drawn(20, 32)}, [2]string{drawn(19, 31), drawn(20, 13)}, [2]string{drawn(19, 33), drawn(20, 11)})
}

func TestWrongKeyOrNonce(t *testing.T) {
	for _, c := range wrongPairs() {
		if s, e := Once(c[0], c[1]); s != "" || e != api.ErrSize {
			t.Errorf("key of %d bytes, nonce of %d: once %x, %d", len(c[0]), len(c[1]), s, e)
		}
		for _, n := range []int{0, 1, 16, 100, api.MaxText, api.MaxText + 1} {
			for _, d := range []int{0, 12, api.MaxData, api.MaxData + 1} {
				if s, e := Seal(c[0], c[1], zeros(d), zeros(n)); s != "" || e != api.ErrSize {
					t.Errorf("key of %d bytes, nonce of %d, data of %d, text of %d: sealed %d, %d", len(c[0]), len(c[1]), d, n, len(s), e)
				}
			}
		}
	}
}

// P6.2

func TestOpenShort(t *testing.T) {
	key, nonce := drawn(21, 32), drawn(22, 12)
	sealed := modelSeal(key, nonce, "data", "")
	if u, e := Open(key, nonce, "data", sealed); u != "" || e != api.OK {
		t.Errorf("a tag alone: %q, %d", u, e)
	}
	for n := range 16 {
		for _, s := range []string{sealed[:n], sealed[16-n:], zeros(n), fulls(n)} {
			if u, e := Open(key, nonce, "data", s); u != "" || e != api.ErrSize {
				t.Errorf("%d bytes: %q, %d", n, u, e)
			}
		}
	}
	for _, s := range []string{zeros(16), fulls(16), drawn(23, 16), modelSeal(key, nonce, "", ""), modelSeal(key, nonce, "datas", "")} {
		refused(t, "sixteen other bytes", key, nonce, "data", s)
	}
}

// TestOpenTooLong takes bytes that have the tag they should, but for their size.
func TestOpenTooLong(t *testing.T) {
	key, nonce := drawn(24, 32), drawn(25, 12)
	for _, c := range tooLong() {
		s := modelSeal(key, nonce, c[0], c[1])
		if u, e := Open(key, nonce, c[0], s); u != "" || e != api.ErrSize {
			t.Errorf("data of %d bytes, sealed of %d: %d, %d", len(c[0]), len(s), len(u), e)
		}
	}
	refused(t, "the longest that may be", key, nonce, "", zeros(api.MaxText+16))
	for _, n := range []int{api.MaxText + 17, api.MaxText + 32, 1 << 16, 1 << 20} {
		if u, e := Open(key, nonce, "", zeros(n)); u != "" || e != api.ErrSize {
			t.Errorf("%d bytes: %d, %d", n, len(u), e)
		}
	}
}

// TestOpenWrongSizesFirst takes what would have a wrong tag, too.
func TestOpenWrongSizesFirst(t *testing.T) {
	for _, c := range wrongPairs() {
		for _, n := range []int{0, 15, 16, 17, 100, api.MaxText + 16, api.MaxText + 17} {
			for _, d := range []int{0, 12, api.MaxData, api.MaxData + 1} {
				if u, e := Open(c[0], c[1], zeros(d), zeros(n)); u != "" || e != api.ErrSize {
					t.Errorf("key of %d bytes, nonce of %d, data of %d, sealed of %d: %d, %d", len(c[0]), len(c[1]), d, n, len(u), e)
				}
			}
		}
	}
	for _, c := range []struct{ d, n int }{{api.MaxData + 1, 16}, {api.MaxData + 1, 0}, {0, 15}, {0, api.MaxText + 17}, {api.MaxData, api.MaxText + 17}, {api.MaxData + 1, api.MaxText + 17}} {
		if u, e := Open(zeros(32), zeros(12), drawn(26, c.d), drawn(27, c.n)); u != "" || e != api.ErrSize {
			t.Errorf("data of %d bytes, sealed of %d: %d, %d", c.d, c.n, len(u), e)
		}
	}
	refused(t, "sizes that may be", zeros(32), zeros(12), drawn(26, api.MaxData), drawn(27, api.MaxText+16))
}

// TestOpenChanged turns each bit of what is handed, by itself.
func TestOpenChanged(t *testing.T) {
	key, nonce := drawn(28, 32), drawn(29, 12)
	for _, d := range []int{0, 1, 12, 16, 17} {
		for _, n := range []int{0, 1, 16, 17, 65} {
			data := drawn(30, d)
			sealed := modelSeal(key, nonce, data, drawn(31, n))
			for bit := range 8 * len(sealed) {
				refused(t, "sealed bytes or tag", key, nonce, data, changed(sealed, bit/8, 1<<(bit%8)))
			}
			for bit := range 8 * d {
				refused(t, "data", key, nonce, changed(data, bit/8, 1<<(bit%8)), sealed)
			}
			for bit := range 8 * 32 {
				refused(t, "key", changed(key, bit/8, 1<<(bit%8)), nonce, data, sealed)
			}
			for bit := range 8 * 12 {
				refused(t, "nonce", key, changed(nonce, bit/8, 1<<(bit%8)), data, sealed)
			}
		}
	}
}

// TestOpenChangedFarOff changes bytes of the longest ones.
func TestOpenChangedFarOff(t *testing.T) {
	key, nonce, data := drawn(32, 32), drawn(33, 12), drawn(34, api.MaxData)
	sealed := modelSeal(key, nonce, data, drawn(35, api.MaxText))
	for _, i := range []int{0, 1, 63, 64, 8191, api.MaxText - 1, api.MaxText, api.MaxText + 15} {
		refused(t, "sealed bytes or tag", key, nonce, data, changed(sealed, i, 1))
	}
	for _, i := range []int{0, 15, 16, 2048, api.MaxData - 1} {
		refused(t, "data", key, nonce, changed(data, i, 128), sealed)
	}
}

func TestOpenCutOrLonger(t *testing.T) {
	key, nonce, data := drawn(36, 32), drawn(37, 12), drawn(38, 20)
	for _, text := range []string{"", "x", drawn(39, 50), zeros(64)} {
		sealed := modelSeal(key, nonce, data, text)
		for n := 1; len(sealed)-n >= 16; n++ {
			refused(t, "cut behind", key, nonce, data, sealed[:len(sealed)-n])
			refused(t, "cut ahead", key, nonce, data, sealed[n:])
		}
		for i := range len(text) {
			refused(t, "a byte taken out", key, nonce, data, sealed[:i]+sealed[i+1:])
		}
		for i := range len(sealed) + 1 {
			refused(t, "a byte laid in", key, nonce, data, sealed[:i]+"\x00"+sealed[i:])
		}
		for n := 1; n <= 33; n++ {
			turned, tag := sealed[:len(text)], sealed[len(text):]
			refused(t, "longer behind", key, nonce, data, sealed+zeros(n))
			refused(t, "longer ahead", key, nonce, data, zeros(n)+sealed)
			refused(t, "longer within", key, nonce, data, turned+zeros(n)+tag)
			refused(t, "longer data", key, nonce, data+zeros(n), sealed)
		}
		for n := range len(data) {
			refused(t, "data cut behind", key, nonce, data[:n], sealed)
			refused(t, "data cut ahead", key, nonce, data[len(data)-n:], sealed)
		}
	}
}

// TestOpenParted moves the place at which data end and sealed bytes begin.
func TestOpenParted(t *testing.T) {
	key, nonce := drawn(40, 32), drawn(41, 12)
	for _, all := range []string{zeros(64), drawn(42, 64), drawn(43, 33)} {
		for _, n := range []int{0, 1, 15, 16, 17, 32, len(all)} {
			sealed := modelTagged(key, nonce, all[:n], all[n:])
			turned, tag := sealed[:len(all)-n], sealed[len(all)-n:]
			if _, e := Open(key, nonce, all[:n], sealed); e != api.OK {
				t.Errorf("%x, parted at %d: %d", all, n, e)
			}
			for k := range len(all) + 1 {
				if k != n {
					refused(t, "parted otherwise", key, nonce, all[:k], all[k:]+tag)
				}
			}
			if all[:n] != turned {
				refused(t, "the one for the other", key, nonce, turned, all[:n]+tag)
			}
		}
	}
}

// TestOpenTagOfAnother takes tags that would be right if less, or something else, were covered.
func TestOpenTagOfAnother(t *testing.T) {
	key, nonce, data, text := drawn(44, 32), drawn(45, 12), drawn(46, 20), drawn(47, 40)
	once, turned := modelBlock(key, 0, nonce)[:32], modelTurn(key, nonce, text)
	covered := modelCovered(data, turned)
	for i, tag := range []string{
		modelPoly(once, data+turned),
		modelPoly(once, covered[:len(covered)-16]),
		modelPoly(once, modelCovered(data, text)),
		modelPoly(once, modelCovered(turned, data)),
		modelPoly(once, modelCovered("", turned)),
		modelPoly(once, modelCovered(data, "")),
		modelPoly(key, covered),
		modelPoly(modelBlock(key, 1, nonce)[:32], covered),
		modelPoly(modelBlock(key, 0, nonce)[32:], covered),
		zeros(16),
	} {
		refused(t, "tag "+string(rune('0'+i)), key, nonce, data, turned+tag)
	}
}

// P6.3

// TestOpenedIsSealed takes bytes of all kinds with the tag that they have: they are opened to a text, and that text is sealed to them.
func TestOpenedIsSealed(t *testing.T) {
	for seed := range uint64(300) {
		n := drawn(seed+500, 2)
		key, nonce, data, turned := drawn(seed, 32), drawn(seed+1, 12), drawn(seed+2, int(n[0])), drawn(seed+3, int(n[1]))
		sealed := modelTagged(key, nonce, data, turned)
		text, e := Open(key, nonce, data, sealed)
		if text != modelTurn(key, nonce, turned) || e != api.OK {
			t.Errorf("seed %d: opened to %x, %d", seed, text, e)
		}
		if s, e := Seal(key, nonce, data, text); s != sealed || e != api.OK {
			t.Errorf("seed %d: sealed to %x, %d; want %x", seed, s, e, sealed)
		}
	}
}

// TestSealedIsOpened goes there and back, the sealed bytes by other keys and nonces between.
func TestSealedIsOpened(t *testing.T) {
	seen := map[string]int{}
	for i := range 200 {
		key, nonce := drawn(uint64(i%10), 32), drawn(uint64(i/10), 12)
		s, e := Seal(key, nonce, "data", ladies)
		if len(s) != len(ladies)+16 || e != api.OK {
			t.Errorf("%d: %d bytes, %d", i, len(s), e)
		}
		if k, ok := seen[s]; ok {
			t.Errorf("%d: sealed as %d", i, k)
		}
		seen[s] = i
		if u, e := Open(key, nonce, "data", s); u != ladies || e != api.OK {
			t.Errorf("%d: opened to %q, %d", i, u, e)
		}
	}
}

// TestAskedAgain holds that nothing is kept from call to call.
func TestAskedAgain(t *testing.T) {
	key, nonce, data := drawn(48, 32), drawn(49, 12), drawn(50, 30)
	sealed := modelSeal(key, nonce, data, ladies)
	for i := range 3 {
		if s, e := Seal(key, nonce, data, ladies); s != sealed || e != api.OK {
			t.Errorf("time %d: %x, %d", i, s, e)
		}
		refused(t, "another between", key, nonce, data, changed(sealed, i, 1))
		if s, e := Seal(key[1:], nonce, data, ladies); s != "" || e != api.ErrSize {
			t.Errorf("time %d: a short key: %x, %d", i, s, e)
		}
		if u, e := Open(key, nonce, data, sealed); u != ladies || e != api.OK {
			t.Errorf("time %d: opened to %q, %d", i, u, e)
		}
	}
}
