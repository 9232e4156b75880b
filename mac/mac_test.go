package mac

import (
	"crypto/hkdf"
	"crypto/hmac"
	"crypto/sha256"
	"encoding/hex"
	"math"
	"strings"
	"testing"

	"posthorn/api"
	"posthorn/sha"
)

// draws makes numbers that look like chance, and are the same in each run.
type draws uint64

func (d *draws) next() uint32 {
	*d = *d*6364136223846793005 + 1442695040888963407
	return uint32(*d >> 32)
}

func (d *draws) bytes(n int) string {
	b := make([]byte, n)
	for i := range b {
		b[i] = byte(d.next() >> 8)
	}
	return string(b)
}

// keySizes are the sizes about a block's end, and some that are far from it.
var keySizes = []int{0, 1, 31, 32, 33, 62, 63, 64, 65, 66, 96, 127, 128, 129, 1000}

// textSizes are the sizes about a block's end, and about the end of what its padding leaves.
var textSizes = []int{0, 1, 54, 55, 56, 57, 63, 64, 65, 119, 120, 127, 128, 129, 1000}

func zeros(n int) string {
	return strings.Repeat("\x00", n)
}

func unhex(t *testing.T, s string) string {
	t.Helper()
	b, err := hex.DecodeString(strings.ReplaceAll(s, " ", ""))
	if err != nil {
		t.Fatal(err)
	}
	return string(b)
}

func librarySum(key, text string) string {
	h := hmac.New(sha256.New, []byte(key))
	h.Write([]byte(text))
	return string(h.Sum(nil))
}

func libraryExtract(t *testing.T, salt, secret string) string {
	t.Helper()
	k, err := hkdf.Extract(sha256.New, []byte(secret), []byte(salt))
	if err != nil {
		t.Fatal(err)
	}
	return string(k)
}

func libraryExpand(t *testing.T, key, info string, n int) string {
	t.Helper()
	s, err := hkdf.Expand(sha256.New, []byte(key), info, n)
	if err != nil {
		t.Fatal(err)
	}
	return string(s)
}

// changed tells s with byte i turned by x.
func changed(s string, i int, x byte) string {
	b := []byte(s)
	b[i] ^= x
	return string(b)
}

// P3.1

// sumCases are RFC 4231's, but for the one that is cut, the document's example, and one of no bytes.
var sumCases = []struct{ key, text, want string }{
	{strings.Repeat("\x0b", 20), "Hi There", "b0344c61d8db38535ca8afceaf0bf12b881dc200c9833da726e9376c2e32cff7"},
	{"Jefe", "what do ya want for nothing?", "5bdcc146 bf60754e 6a042426 089575c7 5a003f08 9d273983 9dec58b9 64ec3843"},
	{strings.Repeat("\xaa", 20), strings.Repeat("\xdd", 50), "773ea91e36800e46854db8ebd09181a72959098b3ef8c122d9635514ced565fe"},
	{"\x01\x02\x03\x04\x05\x06\x07\x08\x09\x0a\x0b\x0c\x0d\x0e\x0f\x10\x11\x12\x13\x14\x15\x16\x17\x18\x19", strings.Repeat("\xcd", 50), "82558a389a443c0ea4cc819899f2083a85f0faa3e578f8077a2e3ff46729665b"},
	{strings.Repeat("\xaa", 131), "Test Using Larger Than Block-Size Key - Hash Key First", "60e431591ee0b67f0d8a26aacbf5b77f8e0bc6213728c5140546040f0ee37f54"},
	{strings.Repeat("\xaa", 131), "This is a test using a larger than block-size key and a larger than block-size data. The key needs to be hashed before being used by the HMAC algorithm.", "9b09ffa71b942fcb27635fbcd5b0e944bfdc63644f0713938a7f51535c3a35e2"},
	{"", "", "b613679a0814d9ec772f95d778c35fc5ff1697c493715653c6c712144292c5ad"},
}

func TestSumCases(t *testing.T) {
	for _, c := range sumCases {
		if s := Sum(c.key, c.text); s != unhex(t, c.want) {
			t.Errorf("%q, %q: %x, want %s", c.key, c.text, s, c.want)
		}
	}
}

func TestSumKeySizes(t *testing.T) {
	d := draws(1)
	for n := range 200 {
		for _, size := range []int{0, 1, 64, 100} {
			text := d.bytes(size)
			for _, key := range []string{d.bytes(n), zeros(n), strings.Repeat("\xff", n), strings.Repeat("\x36", n), strings.Repeat("\x5c", n)} {
				if s, want := Sum(key, text), librarySum(key, text); s != want {
					t.Errorf("key of %d bytes, text of %d: %x, want %x", n, size, s, want)
				}
			}
		}
	}
}

func TestSumTextSizes(t *testing.T) {
	d := draws(2)
	for _, n := range keySizes {
		key := d.bytes(n)
		for size := range 200 {
			text := d.bytes(size)
			if s, want := Sum(key, text), librarySum(key, text); s != want {
				t.Errorf("key of %d bytes, text of %d: %x, want %x", n, size, s, want)
			}
		}
	}
	key, text := d.bytes(1<<20+3), d.bytes(1<<20+7)
	if s, want := Sum(key, text), librarySum(key, text); s != want {
		t.Errorf("long ones: %x, want %x", s, want)
	}
}

// TestSumOrder tells a key from a text.
func TestSumOrder(t *testing.T) {
	if Sum("a", "b") == Sum("b", "a") || Sum("ab", "") == Sum("a", "b") || Sum("", "ab") == Sum("a", "b") {
		t.Error("a key isn't told from a text")
	}
}

func TestCheckRight(t *testing.T) {
	d := draws(3)
	for _, c := range sumCases {
		if !Check(c.key, c.text, unhex(t, c.want)) {
			t.Errorf("%q, %q: not right", c.key, c.text)
		}
	}
	for _, n := range keySizes {
		for _, size := range textSizes {
			key, text := d.bytes(n), d.bytes(size)
			if !Check(key, text, librarySum(key, text)) {
				t.Errorf("key of %d bytes, text of %d: not right", n, size)
			}
		}
	}
}

func TestCheckWrongSum(t *testing.T) {
	key, text := "a key", "a text"
	right := librarySum(key, text)
	for n := range len(right) {
		if Check(key, text, right[:n]) {
			t.Errorf("the first %d bytes are right", n)
		}
		if Check(key, text, right[len(right)-n:]) {
			t.Errorf("the last %d bytes are right", n)
		}
		if Check(key, text, right[:n]+zeros(len(right)-n)) {
			t.Errorf("%d bytes and bytes 0 are right", n)
		}
		for x := 1; x < 256; x++ {
			if Check(key, text, changed(right, n, byte(x))) {
				t.Errorf("byte %d turned by %d is right", n, x)
			}
		}
	}
	for _, more := range []string{"\x00", "a", right} {
		if Check(key, text, right+more) || Check(key, text, more+right) {
			t.Errorf("right with %d bytes more", len(more))
		}
	}
	if Check(key, text, hex.EncodeToString([]byte(right))) {
		t.Error("digits are right")
	}
}

func TestCheckWrongKeyOrText(t *testing.T) {
	d := draws(4)
	for _, n := range keySizes[1:] {
		key, text := d.bytes(n), d.bytes(70)
		right := librarySum(key, text)
		for i := range len(key) {
			if Check(changed(key, i, 1), text, right) {
				t.Errorf("key of %d bytes: right with byte %d turned", n, i)
			}
		}
		for i := range len(text) {
			if Check(key, changed(text, i, 128), right) || Check(key, text[:i], right) {
				t.Errorf("text: right with byte %d turned, or cut there", i)
			}
		}
		if Check(key, text+"\x00", right) || Check("", text, right) || Check(text, key, right) {
			t.Errorf("key of %d bytes: right with another text or key", n)
		}
	}
}

// expandCases are RFC 5869's of SHA-256.
var expandCases = []struct {
	salt, secret, info string
	key, want          string
}{
	{
		"000102030405060708090a0b0c", strings.Repeat("0b", 22), "f0f1f2f3f4f5f6f7f8f9",
		"077709362c2e32df0ddc3f0dc47bba6390b6c73bb50f9c3122ec844ad7c2b3e5",
		"3cb25f25faacd57a90434f64d0362f2a2d2d0a90cf1a5a4c5db02d56ecc4c5bf34007208d5b887185865",
	},
	{
		"606162636465666768696a6b6c6d6e6f707172737475767778797a7b7c7d7e7f808182838485868788898a8b8c8d8e8f909192939495969798999a9b9c9d9e9fa0a1a2a3a4a5a6a7a8a9aaabacadaeaf",
		"000102030405060708090a0b0c0d0e0f101112131415161718191a1b1c1d1e1f202122232425262728292a2b2c2d2e2f303132333435363738393a3b3c3d3e3f404142434445464748494a4b4c4d4e4f",
		"b0b1b2b3b4b5b6b7b8b9babbbcbdbebfc0c1c2c3c4c5c6c7c8c9cacbcccdcecfd0d1d2d3d4d5d6d7d8d9dadbdcdddedfe0e1e2e3e4e5e6e7e8e9eaebecedeeeff0f1f2f3f4f5f6f7f8f9fafbfcfdfeff",
		"06a6b88c5853361a06104c9ceb35b45cef760014904671014a193f40c15fc244",
		"b11e398dc80327a1c8e7f78c596a49344f012eda2d4efad8a050cc4c19afa97c59045a99cac7827271cb41c65e590e09da3275600c2f09b8367793a9aca3db71cc30c58179ec3e87c14c01d5c1f3434f1d87",
	},
	{
		"", strings.Repeat("0b", 22), "",
		"19ef24a32c717b167f33a91d6f648bdf96596776afdb6377ac434c1c293ccb04",
		"8da4e775a563c18f715f802a063c5a31b8a11f5c5ee1879ec3454e5f3c738d2d9d201395faa4b61a96c8",
	},
}

func TestExpandCases(t *testing.T) {
	for i, c := range expandCases {
		salt, secret, info := unhex(t, c.salt), unhex(t, c.secret), unhex(t, c.info)
		key, want := unhex(t, c.key), unhex(t, c.want)
		if k := Extract(salt, secret); k != key {
			t.Errorf("case %d: extracted %x, want %x", i, k, key)
		}
		if s, e := Expand(key, info, len(want)); s != want || e != api.OK {
			t.Errorf("case %d: expanded %x, %d; want %x", i, s, e, want)
		}
		if s, e := Derive(salt, secret, info, len(want)); s != want || e != api.OK {
			t.Errorf("case %d: derived %x, %d; want %x", i, s, e, want)
		}
	}
}

func TestExtractSizes(t *testing.T) {
	d := draws(5)
	for _, n := range keySizes {
		for _, size := range textSizes {
			salt, secret := d.bytes(n), d.bytes(size)
			k, want := Extract(salt, secret), libraryExtract(t, salt, secret)
			if k != want || k != Sum(salt, secret) {
				t.Errorf("salt of %d bytes, secret of %d: %x, want %x", n, size, k, want)
			}
		}
	}
}

// expandSizes are the sizes about each of the first parts' ends, and about the last part's.
func expandSizes() []int {
	sizes := []int{1000, MaxExpand / 2, MaxExpand - 64, MaxExpand - 33, MaxExpand - 32, MaxExpand - 31, MaxExpand - 1, MaxExpand}
	for n := range 200 {
		sizes = append(sizes, n)
	}
	return sizes
}

func TestMaxExpand(t *testing.T) {
	if MaxExpand != 8160 {
		t.Errorf("%d", MaxExpand)
	}
}

func TestExpandSizes(t *testing.T) {
	d := draws(6)
	for _, n := range expandSizes() {
		key, info := d.bytes(32), d.bytes(n%70)
		s, e := Expand(key, info, n)
		if want := libraryExpand(t, key, info, n); s != want || e != api.OK {
			t.Errorf("%d bytes: %x, %d; want %x", n, s, e, want)
		}
	}
}

func TestExpandKeysAndInfos(t *testing.T) {
	d := draws(7)
	for _, n := range keySizes {
		for _, size := range textSizes {
			key, info := d.bytes(n), d.bytes(size)
			for _, told := range []int{0, 1, 31, 32, 33, 64, 65, 100} {
				s, e := Expand(key, info, told)
				if want := libraryExpand(t, key, info, told); s != want || e != api.OK {
					t.Errorf("key of %d bytes, info of %d, %d bytes: %x, %d; want %x", n, size, told, s, e, want)
				}
			}
		}
	}
}

// TestExpandLongKey takes long if the key is digested anew for each part.
func TestExpandLongKey(t *testing.T) {
	d := draws(8)
	key := d.bytes(8 << 20)
	s, e := Expand(key, "info", MaxExpand)
	if want := libraryExpand(t, sha.Sum(key), "info", MaxExpand); s != want || e != api.OK {
		t.Errorf("%d bytes, %d", len(s), e)
	}
}

// TestExpandParts mixes the parts by hand, by the chapter's words.
func TestExpandParts(t *testing.T) {
	key, info := "a key", "what it is for"
	all, part := "", ""
	for i := 1; i <= 255; i++ {
		part = Sum(key, part+info+string([]byte{byte(i)}))
		all += part
	}
	if s, e := Expand(key, info, MaxExpand); s != all || e != api.OK {
		t.Errorf("%d bytes, %d", len(s), e)
	}
}

func TestDeriveSizes(t *testing.T) {
	d := draws(9)
	for _, n := range expandSizes() {
		salt, secret, info := d.bytes(n%130), d.bytes(n%90), d.bytes(n%70)
		want, err := hkdf.Key(sha256.New, []byte(secret), []byte(salt), info, n)
		if err != nil {
			t.Fatal(err)
		}
		s, e := Derive(salt, secret, info, n)
		if s != string(want) || e != api.OK {
			t.Errorf("%d bytes: %x, %d; want %x", n, s, e, want)
		}
		if x, e := Expand(Extract(salt, secret), info, n); x != s || e != api.OK {
			t.Errorf("%d bytes: expanded %x, %d; derived %x", n, x, e, s)
		}
	}
}

// TestWrongSizes stops at the first fault: what comes behind it would need no end of memory.
func TestWrongSizes(t *testing.T) {
	for _, n := range []int{-1, -2, -31, -32, -MaxExpand, math.MinInt32, math.MinInt, MaxExpand + 1, MaxExpand + 31, MaxExpand + 32, 256*32 + 1, 1 << 16, math.MaxInt32, 1 << 32, 1<<32 + 32, math.MaxInt} {
		for _, text := range []string{"", "a", zeros(64), zeros(65)} {
			if s, e := Expand(text, text, n); s != "" || e != api.ErrSize {
				t.Fatalf("expanded to %d bytes: %d bytes, %d", n, len(s), e)
			}
			if s, e := Derive(text, text, text, n); s != "" || e != api.ErrSize {
				t.Fatalf("derived to %d bytes: %d bytes, %d", n, len(s), e)
			}
		}
	}
}

// P3.2

func TestMacNew(t *testing.T) {
	d := draws(10)
	for _, n := range keySizes {
		key := d.bytes(n)
		m := New(key)
		if m == nil {
			t.Fatal("none")
		}
		want := librarySum(key, "")
		if s := m.Sum(); s != want {
			t.Errorf("key of %d bytes: %x, want %x", n, s, want)
		}
		m.Add("")
		if s := m.Sum(); s != want {
			t.Errorf("key of %d bytes, behind no bytes: %x, want %x", n, s, want)
		}
	}
}

// TestMacTwoParts parts texts at each place, asked between and not.
func TestMacTwoParts(t *testing.T) {
	d := draws(11)
	for _, n := range []int{0, 32, 64, 65} {
		for _, size := range []int{0, 1, 55, 56, 64, 65, 130} {
			key, text := d.bytes(n), d.bytes(size)
			for cut := range size + 1 {
				for _, asked := range []bool{false, true} {
					m := New(key)
					m.Add(text[:cut])
					if asked && m.Sum() != librarySum(key, text[:cut]) {
						t.Fatalf("key of %d bytes, %d of %d bytes: %x", n, cut, size, m.Sum())
					}
					m.Add(text[cut:])
					if s, want := m.Sum(), librarySum(key, text); s != want {
						t.Fatalf("key of %d bytes, %d bytes cut at %d, asked %t: %x, want %x", n, size, cut, asked, s, want)
					}
				}
			}
		}
	}
}

// TestMacManyParts asks behind each part, the same thing twice, and asks another Mac at the end alone.
func TestMacManyParts(t *testing.T) {
	d := draws(12)
	for range 200 {
		key, text := d.bytes(int(d.next()%130)), ""
		m, quiet := New(key), New(key)
		for range 1 + d.next()%12 {
			part := d.bytes(int(d.next() % 150))
			m.Add(part)
			quiet.Add(part)
			text += part
			first := m.Sum()
			if second, want := m.Sum(), librarySum(key, text); first != want || second != first {
				t.Fatalf("key of %d bytes, %d bytes: %x, %x, want %x", len(key), len(text), first, second, want)
			}
		}
		if quiet.Sum() != m.Sum() || quiet.Sum() != Sum(key, text) || !Check(key, text, quiet.Sum()) {
			t.Fatalf("key of %d bytes, %d bytes: asked %x, not asked %x", len(key), len(text), m.Sum(), quiet.Sum())
		}
	}
}

func TestMacBytes(t *testing.T) {
	d := draws(13)
	key, text := d.bytes(40), d.bytes(300)
	m := New(key)
	for i := range len(text) {
		m.Add(text[i : i+1])
		if s, want := m.Sum(), librarySum(key, text[:i+1]); s != want {
			t.Fatalf("%d bytes: %x, want %x", i+1, s, want)
		}
	}
}

// TestMacsApart lets texts go on side by side, of one key and of another.
func TestMacsApart(t *testing.T) {
	a, b, c := New("key"), New("key"), New("another key")
	for range 10 {
		a.Add("one text ")
		b.Add("another one that is longer ")
		c.Add("one text ")
		Sum("a third key", "a third text")
	}
	one, another := strings.Repeat("one text ", 10), strings.Repeat("another one that is longer ", 10)
	if a.Sum() != librarySum("key", one) || b.Sum() != librarySum("key", another) || c.Sum() != librarySum("another key", one) {
		t.Errorf("%x, %x, %x", a.Sum(), b.Sum(), c.Sum())
	}
	if New("key").Sum() != librarySum("key", "") {
		t.Error("a new one isn't empty")
	}
}

// P3.3

// TestFilledKeys fills keys up to each size that a block has room for.
func TestFilledKeys(t *testing.T) {
	d := draws(14)
	for n := range 65 {
		key, text := d.bytes(n), d.bytes(20)
		s, made := Sum(key, text), Extract(key, text)
		expanded, _ := Expand(key, text, 40)
		derived, _ := Derive(key, text, "info", 40)
		for size := n; size <= 64; size++ {
			filled := key + zeros(size-n)
			m := New(filled)
			m.Add(text)
			if Sum(filled, text) != s || m.Sum() != s || !Check(filled, text, s) || Extract(filled, text) != made {
				t.Fatalf("key of %d bytes, filled up to %d: another mac", n, size)
			}
			if x, e := Expand(filled, text, 40); x != expanded || len(x) != 40 || e != api.OK {
				t.Fatalf("key of %d bytes, filled up to %d: %x, %d; want %x", n, size, x, e, expanded)
			}
			if x, e := Derive(filled, text, "info", 40); x != derived || len(x) != 40 || e != api.OK {
				t.Fatalf("salt of %d bytes, filled up to %d: %x, %d; want %x", n, size, x, e, derived)
			}
		}
	}
}

// TestKeysBeyondABlock tells keys apart that are filled up by bytes 0 above 64, and holds them against their digests.
func TestKeysBeyondABlock(t *testing.T) {
	d := draws(15)
	for _, n := range []int{0, 1, 63, 64} {
		key := d.bytes(n)
		for _, size := range []int{65, 66, 128} {
			filled := key + zeros(size-n)
			s := Sum(filled, "text")
			if s == Sum(key, "text") || Check(key, "text", s) {
				t.Errorf("key of %d bytes, filled up to %d: the same mac", n, size)
			}
			if s != Sum(sha.Sum(filled), "text") || s != Sum(sha.Sum(filled)+zeros(32), "text") {
				t.Errorf("key of %d bytes, filled up to %d: not as its digest", n, size)
			}
		}
		if Sum(key, "text") == Sum(sha.Sum(key), "text") {
			t.Errorf("key of %d bytes: as its digest", n)
		}
	}
	if Sum("\x00a", "text") == Sum("a", "text") {
		t.Error("bytes 0 ahead of a key don't matter")
	}
}

func TestFewerBytesBeginMore(t *testing.T) {
	all, e := Expand("a key", "info", MaxExpand)
	if len(all) != MaxExpand || e != api.OK {
		t.Fatalf("%d bytes, %d", len(all), e)
	}
	derived, e := Derive("salt", "secret", "info", MaxExpand)
	if len(derived) != MaxExpand || e != api.OK {
		t.Fatalf("%d bytes, %d", len(derived), e)
	}
	sizes := expandSizes()
	for n := 200; n < MaxExpand; n += 97 {
		sizes = append(sizes, n)
	}
	for _, n := range sizes {
		if s, e := Expand("a key", "info", n); s != all[:n] || e != api.OK {
			t.Errorf("%d bytes expanded aren't the beginning of more, %d", n, e)
		}
		if s, e := Derive("salt", "secret", "info", n); s != derived[:n] || e != api.OK {
			t.Errorf("%d bytes derived aren't the beginning of more, %d", n, e)
		}
	}
}
