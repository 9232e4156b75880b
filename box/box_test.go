package box

import (
	"crypto/hmac"
	"crypto/sha256"
	"encoding/binary"
	"encoding/hex"
	"math"
	"slices"
	"strings"
	"testing"

	"posthorn/aead"
	"posthorn/api"
)

// drawn tells n bytes that look like chance, others of another seed, and the same in each run.
func drawn(seed uint64, n int) string {
	b := make([]byte, n)
	for i := range b {
		seed = seed*6364136223846793005 + 1442695040888963407
		b[i] = byte(seed >> 56)
	}
	return string(b)
}

// rising tells n bytes, each one more than the one ahead.
func rising(from byte, n int) string {
	b := make([]byte, n)
	for i := range b {
		b[i] = from + byte(i)
	}
	return string(b)
}

func zeros(n int) string {
	return strings.Repeat("\x00", n)
}

func fulls(n int) string {
	return strings.Repeat("\xff", n)
}

// changed tells s with byte i turned by x.
func changed(s string, i int, x byte) string {
	b := []byte(s)
	b[i] ^= x
	return string(b)
}

func unhex(t *testing.T, s string) string {
	t.Helper()
	b, err := hex.DecodeString(strings.ReplaceAll(s, " ", ""))
	if err != nil {
		t.Fatal(err)
	}
	return string(b)
}

// modelKey tells a key of a domain and an epoch, by the chapter's words and the library's HMAC.
func modelKey(master, domain string, epoch uint64) string {
	sum := func(key, text string) string {
		h := hmac.New(sha256.New, []byte(key))
		h.Write([]byte(text))
		return string(h.Sum(nil))
	}
	b := binary.BigEndian.AppendUint16(nil, uint16(len(domain)))
	b = append(b, domain...)
	b = binary.BigEndian.AppendUint64(b, epoch)
	return sum(sum("posthorn", master), string(b)+"\x01")
}

type row struct{ key, nonce, data, text, sealed string }

// model is an ideal box by the chapter's words: a list that is gone through from its beginning.
type model struct {
	draws string
	rows  []row
}

func modelFits(key, nonce, data string, n int) bool {
	return len(key) == 32 && len(nonce) == 12 && len(data) <= 4096 && 0 <= n && n <= 16384
}

func (m *model) seal(key, nonce, data, text string) (string, api.Errno) {
	if !modelFits(key, nonce, data, len(text)) {
		return "", api.ErrSize
	}
	for _, r := range m.rows {
		if r.key == key && r.nonce == nonce && (r.data != data || r.text != text) {
			return "", api.ErrTwice
		}
		if r.key == key && r.nonce == nonce {
			return r.sealed, api.OK
		}
	}
	if len(m.draws) < len(text)+16 {
		return "", api.ErrSpent
	}
	sealed := m.draws[:len(text)+16]
	m.draws = m.draws[len(sealed):]
	m.rows = append(m.rows, row{key, nonce, data, text, sealed})
	return sealed, api.OK
}

func (m *model) open(key, nonce, data, sealed string) (string, api.Errno) {
	if !modelFits(key, nonce, data, len(sealed)-16) {
		return "", api.ErrSize
	}
	for _, r := range m.rows {
		if r.key == key && r.nonce == nonce && r.data == data && r.sealed == sealed {
			return r.text, api.OK
		}
	}
	return "", api.ErrTag
}

// holds holds how many are in a box's table, and how many draws are left.
func holds(t *testing.T, what string, b *Box, n, left int) {
	t.Helper()
	if b.Len() != n || b.Left() != left {
		t.Errorf("%s: %d in the table, %d draws left; want %d, %d", what, b.Len(), b.Left(), n, left)
	}
}

// seals holds what a box seals, and that it has as many as are told in its table behind it, and as many draws left.
func seals(t *testing.T, what string, b *Box, key, nonce, data, text, want string, n, left int) {
	t.Helper()
	if s, e := b.Seal(key, nonce, data, text); s != want || e != api.OK {
		t.Errorf("%s: %x, %d; want %x", what, s, e, want)
	}
	holds(t, what, b, n, left)
}

// sealsNot holds that a box seals nothing, and that nothing is changed.
func sealsNot(t *testing.T, what string, b *Box, key, nonce, data, text string, want api.Errno) {
	t.Helper()
	n, left := b.Len(), b.Left()
	if s, e := b.Seal(key, nonce, data, text); s != "" || e != want {
		t.Errorf("%s: %d bytes, %d; want none, %d", what, len(s), e, want)
	}
	holds(t, what, b, n, left)
}

// opens holds what a box opens, and that nothing is changed.
func opens(t *testing.T, what string, b *Box, key, nonce, data, sealed, want string) {
	t.Helper()
	n, left := b.Len(), b.Left()
	if u, e := b.Open(key, nonce, data, sealed); u != want || e != api.OK {
		t.Errorf("%s: opened to %x, %d; want %x", what, u, e, want)
	}
	holds(t, what, b, n, left)
}

// opensNot holds that a box opens nothing, and that nothing is changed.
func opensNot(t *testing.T, what string, b *Box, key, nonce, data, sealed string, want api.Errno) {
	t.Helper()
	n, left := b.Len(), b.Left()
	if u, e := b.Open(key, nonce, data, sealed); u != "" || e != want {
		t.Errorf("%s: opened to %d bytes, %d; want none, %d", what, len(u), e, want)
	}
	holds(t, what, b, n, left)
}

// sealed tells what a box seals, where nothing is wrong.
func sealed(t *testing.T, b *Box, key, nonce, data, text string) string {
	t.Helper()
	s, e := b.Seal(key, nonce, data, text)
	if e != api.OK {
		t.Fatalf("text of %d bytes: %d", len(text), e)
	}
	return s
}

var (
	keyA   = rising(1, 32)
	keyB   = drawn(50, 32)
	nonceA = rising(100, 12)
	nonceB = drawn(51, 12)
)

// wrongKeySizes and wrongNonceSizes are of what isn't a key, or a nonce.
var (
	wrongKeySizes   = []int{0, 1, 12, 16, 24, 30, 31, 33, 34, 64, 1000}
	wrongNonceSizes = []int{0, 1, 8, 10, 11, 13, 14, 16, 24, 32, 1000}
)

// textSizes and dataSizes have the chapter's edges.
var (
	textSizes = []int{0, 1, 15, 16, 17, 63, 64, 65, 1000, api.MaxText - 1, api.MaxText}
	dataSizes = []int{0, 1, 15, 16, 17, api.MaxData - 1, api.MaxData}
)

// P7.1

// TestKeyOfAnotherProgram holds keys against those of another program.
func TestKeyOfAnotherProgram(t *testing.T) {
	for _, c := range []struct {
		master, domain string
		epoch          uint64
		want           string
	}{
		{rising(0, 32), "", 0, "ab1aa68da134556cc6061268592b3f7637c97689abb18da53b9426e5a7958622"},
		{rising(0, 32), "a", 1, "96ab2c028cd346f1ca5101a954a5ac110ee02210191db2516dd1efd22548067b"},
		{rising(0, 32), "a.example", 258, "15aa5c22eb32a95e7bd84c1d0c83fb1d8ff2d1eed3b5dfdbdeba99cd954ff77b"},
		{fulls(32), rising(0, MaxDomain), math.MaxUint64, "0bb1b57031ff6e180c331155855372a99984c2909961a558f610856dc73041ad"},
		{zeros(32), zeros(MaxDomain), 0, "a18da14e843c8537149862cfd307f86fe748857eb0f94abdd53c5a68706e607b"},
		{strings.Repeat("k", 32), "mail.example", 1 << 32, "d6fb85f3be319568cc652ba2fa706fe4f553f5247fdb2179c94f753d1f28d1de"},
	} {
		want := unhex(t, c.want)
		if k, e := Key(c.master, c.domain, c.epoch); k != want || e != api.OK {
			t.Errorf("%x, %q, %d: %x, %d; want %s", c.master, c.domain, c.epoch, k, e, c.want)
		}
		if k := modelKey(c.master, c.domain, c.epoch); k != want {
			t.Errorf("%x, %q, %d: the model's %x, want %s", c.master, c.domain, c.epoch, k, c.want)
		}
	}
}

// epochs has both ends, and those of which one byte alone isn't 0.
func epochs() []uint64 {
	all := []uint64{0, math.MaxUint64, math.MaxUint64 - 1, 0x0102030405060708}
	for i := range 8 {
		all = append(all, 1<<(8*i), 255<<(8*i))
	}
	return all
}

func TestKeySizes(t *testing.T) {
	if MaxDomain != 255 {
		t.Errorf("MaxDomain: %d", MaxDomain)
	}
	for _, n := range []int{0, 1, 2, 31, 32, 33, 63, 64, 65, 127, 128, 253, 254, 255} {
		for i, epoch := range epochs() {
			for _, domain := range []string{drawn(uint64(n+i), n), zeros(n), fulls(n), strings.Repeat("a", n)} {
				for _, master := range []string{zeros(32), fulls(32), drawn(uint64(1000*n+i), 32)} {
					want := modelKey(master, domain, epoch)
					if k, e := Key(master, domain, epoch); k != want || e != api.OK || len(k) != 32 {
						t.Errorf("%x, domain of %d bytes, %d: %x, %d; want %x", master, n, epoch, k, e, want)
					}
				}
			}
		}
	}
}

// TestKeyOfEach holds that another master secret, domain or epoch has another key, also where the same bytes stand parted otherwise.
func TestKeyOfEach(t *testing.T) {
	seen := map[string]int{}
	n := 0
	add := func(master, domain string, epoch uint64) {
		t.Helper()
		n++
		k, e := Key(master, domain, epoch)
		if was, ok := seen[k]; ok || e != api.OK {
			t.Errorf("%x, %q, %d: key %d is key %d, %d", master, domain, epoch, n, was, e)
		}
		seen[k] = n
	}
	for i := range 32 {
		add(changed(keyA, i, 1), "a.example", 1)
		add(changed(keyA, i, 128), "a.example", 1)
	}
	for i := range 16 {
		add(keyA, zeros(i), 0)
		add(keyA, "a.example"+zeros(i), 1)
		add(keyA, zeros(i+1)+"a.example", 1)
		add(keyA, "A.EXAMPLE"[:min(i+1, 9)]+strings.Repeat("x", i), 1)
	}
	for _, epoch := range epochs()[1:] {
		add(keyA, "", epoch)
		add(keyA, "b.example", epoch)
	}
}

func TestKeyWrong(t *testing.T) {
	for _, n := range wrongKeySizes {
		for _, d := range []int{0, 1, 9, MaxDomain, MaxDomain + 1, 1000} {
			if k, e := Key(drawn(1, n), drawn(2, d), 1); k != "" || e != api.ErrSize {
				t.Errorf("master of %d bytes, domain of %d: %x, %d", n, d, k, e)
			}
		}
	}
	for _, d := range []int{MaxDomain + 1, MaxDomain + 2, 511, 512, 65535, 65536, 65536 + 9, 1 << 20} {
		for _, epoch := range []uint64{0, 1, math.MaxUint64} {
			if k, e := Key(keyA, drawn(3, d), epoch); k != "" || e != api.ErrSize {
				t.Errorf("domain of %d bytes, %d: %x, %d", d, epoch, k, e)
			}
		}
	}
}

func TestMade(t *testing.T) {
	holds(t, "real", Real(), 0, 0)
	for _, n := range []int{0, 1, 15, 16, 17, 1 << 20} {
		holds(t, "ideal", Ideal(drawn(4, n)), 0, n)
	}
	if Real() == Real() || Ideal("") == Ideal("") {
		t.Error("two boxes are one")
	}
}

// TestIdealOfNoDraws holds that a box of no draws is an ideal one all the same.
func TestIdealOfNoDraws(t *testing.T) {
	b := Ideal("")
	for _, n := range textSizes {
		sealsNot(t, "no draws", b, keyA, nonceA, "", drawn(5, n), api.ErrSpent)
	}
	s := sealed(t, Real(), keyA, nonceA, "", "text")
	opensNot(t, "a real box's", b, keyA, nonceA, "", s, api.ErrTag)
}

// P7.2

func TestExample(t *testing.T) {
	draws := drawn(6, 40)
	b := Ideal(draws)
	holds(t, "ahead", b, 0, 40)
	seals(t, "4 bytes", b, keyA, nonceA, "data", "text", draws[:20], 1, 20)
	seals(t, "the same again", b, keyA, nonceA, "data", "text", draws[:20], 1, 20)
	sealsNot(t, "8 others", b, keyA, nonceA, "data", "87654321", api.ErrTwice)
	opens(t, "what was sealed", b, keyA, nonceA, "data", draws[:20], "text")
	seals(t, "4 others, by another nonce", b, keyA, nonceB, "data", "txet", draws[20:], 2, 0)
}

// TestIdealSealSizes seals texts of all edges, by each size of data, of one box's draws.
func TestIdealSealSizes(t *testing.T) {
	draws := drawn(7, 1<<20)
	b, at, n := Ideal(draws), 0, 0
	for i, size := range textSizes {
		for k, d := range dataSizes {
			key, nonce := drawn(uint64(i), 32), drawn(uint64(k), 12)
			data, text := drawn(uint64(d), d), drawn(uint64(size)+1, size)
			want := draws[at : at+size+16]
			at += size + 16
			n++
			seals(t, "first", b, key, nonce, data, text, want, n, len(draws)-at)
			seals(t, "again", b, key, nonce, data, text, want, n, len(draws)-at)
			opens(t, "opened", b, key, nonce, data, want, text)
		}
	}
}

// TestIdealSpent has just as many draws as a text needs, one fewer, and others about them.
func TestIdealSpent(t *testing.T) {
	for _, n := range textSizes {
		text := drawn(8, n)
		for _, fewer := range []int{1, 2, 15, 16, n + 15, n + 16} {
			b := Ideal(drawn(9, max(n+16-fewer, 0)))
			sealsNot(t, "too few", b, keyA, nonceA, "data", text, api.ErrSpent)
			sealsNot(t, "too few, again", b, keyA, nonceA, "other data", text, api.ErrSpent)
		}
		for _, more := range []int{0, 1, 15} {
			draws := drawn(10, n+16+more)
			b := Ideal(draws)
			seals(t, "enough", b, keyA, nonceA, "data", text, draws[:n+16], 1, more)
			sealsNot(t, "no more", b, keyA, nonceB, "data", text, api.ErrSpent)
			sealsNot(t, "no more, by another key", b, keyB, nonceA, "data", "", api.ErrSpent)
			seals(t, "again", b, keyA, nonceA, "data", text, draws[:n+16], 1, more)
			opens(t, "opened", b, keyA, nonceA, "data", draws[:n+16], text)
		}
	}
}

// TestIdealSpentGoesOn holds that a text that needs too many draws leaves them to one that needs fewer.
func TestIdealSpentGoesOn(t *testing.T) {
	draws := drawn(11, 36)
	b := Ideal(draws)
	sealsNot(t, "21 bytes", b, keyA, nonceA, "", rising(0, 21), api.ErrSpent)
	seals(t, "2 bytes by the same nonce", b, keyA, nonceA, "", "ab", draws[:18], 1, 18)
	sealsNot(t, "3 bytes", b, keyB, nonceA, "", "abc", api.ErrSpent)
	seals(t, "2 bytes by another key", b, keyB, nonceA, "", "ab", draws[18:], 2, 0)
}

func TestIdealTwice(t *testing.T) {
	for _, n := range []int{0, 1, 15, 16, 17, api.MaxText} {
		text, data := drawn(12, n), drawn(13, min(n, api.MaxData))
		draws := drawn(14, 3*(n+16))
		b := Ideal(draws)
		seals(t, "first", b, keyA, nonceA, data, text, draws[:n+16], 1, 2*(n+16))
		texts := []string{"other", drawn(15, 100), zeros(n + 1)[:min(n+1, api.MaxText)]}
		if n > 0 {
			texts = append(texts, "", text[1:], text[:n-1], changed(text, 0, 1), changed(text, n-1, 128))
		}
		for _, other := range texts {
			sealsNot(t, "another text", b, keyA, nonceA, data, other, api.ErrTwice)
			sealsNot(t, "another text, other data", b, keyA, nonceA, "other", other, api.ErrTwice)
		}
		others := []string{"other", drawn(16, 100)}
		if n > 0 {
			others = append(others, "", data[1:], data[:len(data)-1], changed(data, 0, 1), changed(data, len(data)-1, 128))
		}
		for _, other := range others {
			sealsNot(t, "other data", b, keyA, nonceA, other, text, api.ErrTwice)
		}
		seals(t, "again", b, keyA, nonceA, data, text, draws[:n+16], 1, 2*(n+16))
		seals(t, "another key", b, keyB, nonceA, data, text, draws[n+16:2*(n+16)], 2, n+16)
		seals(t, "another nonce", b, keyA, nonceB, data, text, draws[2*(n+16):], 3, 0)
		sealsNot(t, "other data, and no draws", b, keyA, nonceA, "other", text, api.ErrTwice)
		sealsNot(t, "a greater text, and no draws", b, keyA, nonceA, data, drawn(17, api.MaxText), api.ErrTwice)
		seals(t, "again, and no draws", b, keyA, nonceA, data, text, draws[:n+16], 3, 0)
	}
}

// TestIdealTwiceParted hands the same bytes, of which some went from the data to the text.
func TestIdealTwiceParted(t *testing.T) {
	for _, all := range []string{"abcdef", zeros(6)} {
		for n := range 7 {
			b := Ideal(drawn(18, 100))
			sealed(t, b, keyA, nonceA, all[:n], all[n:])
			for k := range 7 {
				if k != n {
					sealsNot(t, "parted otherwise", b, keyA, nonceA, all[:k], all[k:], api.ErrTwice)
				}
			}
		}
	}
}

// TestIdealEachPair holds that a key or a nonce of which one byte is another is another.
func TestIdealEachPair(t *testing.T) {
	draws := drawn(19, 45*20)
	b := Ideal(draws)
	n := 0
	add := func(key, nonce string) {
		t.Helper()
		seals(t, "another", b, key, nonce, "data", "text", draws[20*n:20*n+20], n+1, len(draws)-20*n-20)
		n++
	}
	add(keyA, nonceA)
	for i := range 32 {
		add(changed(keyA, i, 1), nonceA)
	}
	for i := range 12 {
		add(keyA, changed(nonceA, i, 1))
	}
	sealsNot(t, "no draws", b, keyB, nonceA, "data", "", api.ErrSpent)
}

// TestIdealPairParted holds that bytes that went from the key to the nonce are no key and no nonce.
func TestIdealPairParted(t *testing.T) {
	b := Ideal(drawn(20, 100))
	all := zeros(44)
	sealed(t, b, all[:32], all[32:], "", "text")
	for _, n := range []int{12, 31, 33, 44} {
		sealsNot(t, "parted otherwise", b, all[:n], all[n:], "", "text", api.ErrSize)
	}
}

func TestRealSeal(t *testing.T) {
	b := Real()
	for i, n := range textSizes {
		for k, d := range dataSizes {
			key, nonce := drawn(uint64(i), 32), drawn(uint64(k), 12)
			data, text := drawn(uint64(d), d), drawn(uint64(n)+1, n)
			want, e := aead.Seal(key, nonce, data, text)
			if e != api.OK {
				t.Fatalf("data of %d bytes, text of %d: %d", d, n, e)
			}
			seals(t, "real", b, key, nonce, data, text, want, 0, 0)
			opens(t, "real", b, key, nonce, data, want, text)
			opens(t, "another real", Real(), key, nonce, data, want, text)
		}
	}
}

// TestRealSealCase has RFC 8439's of section 2.8.2.
func TestRealSealCase(t *testing.T) {
	text := "Ladies and Gentlemen of the class of '99: If I could offer you only one tip for the future, sunscreen would be it."
	nonce, data := "\x07\x00\x00\x00\x40\x41\x42\x43\x44\x45\x46\x47", "\x50\x51\x52\x53\xc0\xc1\xc2\xc3\xc4\xc5\xc6\xc7"
	want := unhex(t, "d31a8d34648e60db7b86afbc53ef7ec2a4aded51296e08fea9e2b5a736ee62d63dbea45e8ca9671282fafb69da92728b1a71de0a9e060b2905d6a5b67ecd3b3692ddbd7f2d778b8c9803aee328091b58fab324e4fad675945585808b4831d7bc3ff4def08e4b7a9de576d26586cec64b6116 1ae10b594f09e26a7e902ecbd0600691")
	seals(t, "ladies", Real(), rising(128, 32), nonce, data, text, want, 0, 0)
	opens(t, "ladies", Real(), rising(128, 32), nonce, data, want, text)
}

// TestRealTwice holds that a real box has no table: another text by the same key and nonce is sealed.
func TestRealTwice(t *testing.T) {
	b := Real()
	for _, c := range []struct{ data, text string }{{"data", "text"}, {"data", "other"}, {"other data", "text"}, {"", ""}, {"data", "text"}} {
		want, _ := aead.Seal(keyA, nonceA, c.data, c.text)
		seals(t, c.data+", "+c.text, b, keyA, nonceA, c.data, c.text, want, 0, 0)
		opens(t, c.data+", "+c.text, b, keyA, nonceA, c.data, want, c.text)
	}
}

// boxes tells a box of each kind: real, ideal, ideal with something in its table, ideal and spent.
func boxes(t *testing.T) map[string]*Box {
	filled, spent := Ideal(drawn(21, 1<<16)), Ideal(drawn(22, 20))
	sealed(t, filled, keyA, nonceA, "data", "text")
	sealed(t, spent, keyA, nonceA, "data", "text")
	return map[string]*Box{"real": Real(), "ideal": Ideal(drawn(23, 1<<16)), "filled": filled, "spent": spent, "no draws": Ideal("")}
}

func TestSealWrong(t *testing.T) {
	for what, b := range boxes(t) {
		for _, n := range wrongKeySizes {
			sealsNot(t, what+", key", b, drawn(24, n), nonceA, "data", "text", api.ErrSize)
			sealsNot(t, what+", key", b, (keyA + zeros(1000))[:n], nonceA, "data", "text", api.ErrSize)
		}
		for _, n := range wrongNonceSizes {
			sealsNot(t, what+", nonce", b, keyA, drawn(25, n), "data", "text", api.ErrSize)
			sealsNot(t, what+", nonce", b, keyA, (nonceA + zeros(1000))[:n], "data", "text", api.ErrSize)
		}
		for _, n := range []int{api.MaxData + 1, api.MaxData + 2, api.MaxText, 1 << 20} {
			sealsNot(t, what+", data", b, keyA, nonceA, drawn(26, n), "text", api.ErrSize)
			sealsNot(t, what+", data", b, keyB, nonceB, drawn(26, n), "", api.ErrSize)
		}
		for _, n := range []int{api.MaxText + 1, api.MaxText + 2, api.MaxText + 16, 1 << 20} {
			sealsNot(t, what+", text", b, keyA, nonceA, "data", drawn(27, n), api.ErrSize)
			sealsNot(t, what+", text", b, keyB, nonceB, "", drawn(27, n), api.ErrSize)
		}
		sealsNot(t, what+", all", b, "", "", drawn(28, api.MaxData+1), drawn(29, api.MaxText+1), api.ErrSize)
		sealsNot(t, what+", key and nonce turned", b, nonceA, keyA, "data", "text", api.ErrSize)
	}
}

// TestFirstError has the same call with ever fewer wrong: size, then twice, then spent.
func TestFirstError(t *testing.T) {
	b := Ideal(drawn(30, 21))
	sealed(t, b, keyA, nonceA, "data", "text")
	sealsNot(t, "size, twice and spent", b, keyA, nonceA, "data", drawn(31, api.MaxText+1), api.ErrSize)
	sealsNot(t, "size (data), twice and spent", b, keyA, nonceA, drawn(32, api.MaxData+1), "other", api.ErrSize)
	sealsNot(t, "size (key) and spent", b, keyA[1:], nonceA, "data", "other", api.ErrSize)
	sealsNot(t, "size (nonce) and spent", b, keyA, nonceA[1:], "data", "other", api.ErrSize)
	sealsNot(t, "twice and spent", b, keyA, nonceA, "data", "other", api.ErrTwice)
	sealsNot(t, "twice (data) and spent", b, keyA, nonceA, "other", "text", api.ErrTwice)
	sealsNot(t, "spent", b, keyA, nonceB, "data", "text", api.ErrSpent)
	opensNot(t, "size and tag", b, keyA, nonceA, "data", "text", api.ErrSize)
	opensNot(t, "size (data) and tag", b, keyA, nonceB, drawn(33, api.MaxData+1), drawn(34, 20), api.ErrSize)
	opensNot(t, "tag", b, keyA, nonceB, "data", drawn(35, 20), api.ErrTag)
}

// P7.3

func TestOpenWrong(t *testing.T) {
	for what, b := range boxes(t) {
		s, _ := b.Seal(keyA, nonceA, "data", "text")
		if len(s) != 20 {
			s = drawn(36, 20)
		}
		for _, n := range wrongKeySizes {
			opensNot(t, what+", key", b, (keyA + zeros(1000))[:n], nonceA, "data", s, api.ErrSize)
		}
		for _, n := range wrongNonceSizes {
			opensNot(t, what+", nonce", b, keyA, (nonceA + zeros(1000))[:n], "data", s, api.ErrSize)
		}
		for _, n := range []int{api.MaxData + 1, api.MaxData + 2, 1 << 20} {
			opensNot(t, what+", data", b, keyA, nonceA, ("data" + zeros(n))[:n], s, api.ErrSize)
		}
		for n := range 16 {
			opensNot(t, what+", sealed", b, keyA, nonceA, "data", s[:n], api.ErrSize)
			opensNot(t, what+", sealed", b, keyB, nonceB, "", drawn(37, n), api.ErrSize)
		}
		for _, n := range []int{api.MaxText + 17, api.MaxText + 18, 1 << 20} {
			opensNot(t, what+", sealed", b, keyA, nonceA, "data", (s + zeros(n))[:n], api.ErrSize)
		}
		for _, n := range []int{16, 17, 19, 21, api.MaxText + 15, api.MaxText + 16} {
			opensNot(t, what+", others", b, keyA, nonceA, "data", (s + zeros(n))[:n], api.ErrTag)
			opensNot(t, what+", others", b, keyA, nonceA, drawn(38, api.MaxData), drawn(39, n), api.ErrTag)
		}
		opensNot(t, what+", all", b, "", "", drawn(40, api.MaxData+1), "", api.ErrSize)
	}
}

// TestOpenChanged turns each byte of all that is handed, of either kind of box.
func TestOpenChanged(t *testing.T) {
	for what, b := range map[string]*Box{"real": Real(), "ideal": Ideal(drawn(41, 1000))} {
		data, text := drawn(42, 33), drawn(43, 40)
		s := sealed(t, b, keyA, nonceA, data, text)
		for _, x := range []byte{1, 128, 255} {
			for i := range keyA {
				opensNot(t, what+", key", b, changed(keyA, i, x), nonceA, data, s, api.ErrTag)
			}
			for i := range nonceA {
				opensNot(t, what+", nonce", b, keyA, changed(nonceA, i, x), data, s, api.ErrTag)
			}
			for i := range data {
				opensNot(t, what+", data", b, keyA, nonceA, changed(data, i, x), s, api.ErrTag)
			}
			for i := range s {
				opensNot(t, what+", sealed", b, keyA, nonceA, data, changed(s, i, x), api.ErrTag)
			}
		}
		for n := range data {
			opensNot(t, what+", data cut off", b, keyA, nonceA, data[:n], s, api.ErrTag)
		}
		for n := 16; n < len(s); n++ {
			opensNot(t, what+", sealed cut off", b, keyA, nonceA, data, s[:n], api.ErrTag)
			opensNot(t, what+", sealed cut off in front", b, keyA, nonceA, data, s[len(s)-n:], api.ErrTag)
		}
		for n := range 20 {
			opensNot(t, what+", bytes behind", b, keyA, nonceA, data, s+zeros(n+1), api.ErrTag)
			opensNot(t, what+", data behind", b, keyA, nonceA, data+zeros(n+1), s, api.ErrTag)
		}
		opens(t, what, b, keyA, nonceA, data, s, text)
	}
}

// TestOpenSwapped opens what was sealed by one key and nonce by those of another.
func TestOpenSwapped(t *testing.T) {
	for what, b := range map[string]*Box{"real": Real(), "ideal": Ideal(drawn(44, 1000))} {
		rows := []row{{keyA, nonceA, "data", "text", ""}, {keyA, nonceB, "data", "text", ""}, {keyB, nonceA, "data", "text", ""}, {keyB, nonceB, "other data", "text", ""}}
		for i, r := range rows {
			rows[i].sealed = sealed(t, b, r.key, r.nonce, r.data, r.text)
		}
		for i, r := range rows {
			for k, o := range rows {
				if i == k {
					opens(t, what, b, r.key, r.nonce, r.data, o.sealed, "text")
				} else {
					opensNot(t, what+", swapped", b, r.key, r.nonce, r.data, o.sealed, api.ErrTag)
				}
				if r.data != o.data {
					opensNot(t, what+", data swapped", b, r.key, r.nonce, o.data, r.sealed, api.ErrTag)
				}
			}
		}
	}
}

// TestOpenOfDrawsAlike has draws that repeat themselves: the same sealed bytes belong to each key and nonce.
func TestOpenOfDrawsAlike(t *testing.T) {
	b := Ideal(zeros(60))
	seals(t, "first", b, keyA, nonceA, "", "text", zeros(20), 1, 40)
	seals(t, "second", b, keyA, nonceB, "", "txet", zeros(20), 2, 20)
	seals(t, "third", b, keyB, nonceA, "data", "else", zeros(20), 3, 0)
	opens(t, "first", b, keyA, nonceA, "", zeros(20), "text")
	opens(t, "second", b, keyA, nonceB, "", zeros(20), "txet")
	opens(t, "third", b, keyB, nonceA, "data", zeros(20), "else")
	opensNot(t, "third, no data", b, keyB, nonceA, "", zeros(20), api.ErrTag)
	opensNot(t, "none", b, keyB, nonceB, "", zeros(20), api.ErrTag)
}

// TestOpenOfOthers has bytes that an ideal box didn't seal: a real box's, another ideal one's, its own draws that are left.
func TestOpenOfOthers(t *testing.T) {
	draws := drawn(45, 100)
	b, other := Ideal(draws), Ideal(drawn(46, 100))
	byReal, byOther := sealed(t, Real(), keyA, nonceA, "data", "text"), sealed(t, other, keyA, nonceA, "data", "text")
	for _, what := range []string{"nothing sealed yet", "sealed"} {
		opensNot(t, what+", a real box's", b, keyA, nonceA, "data", byReal, api.ErrTag)
		opensNot(t, what+", another's", b, keyA, nonceA, "data", byOther, api.ErrTag)
		opensNot(t, what+", by others of a real box", b, keyB, nonceB, "data", byReal, api.ErrTag)
		opensNot(t, what+", draws that are left", b, keyA, nonceB, "data", draws[20:40], api.ErrTag)
		byB := sealed(t, b, keyA, nonceA, "data", "text")
		opens(t, what, b, keyA, nonceA, "data", byB, "text")
		opensNot(t, what+", an ideal box's by a real one", Real(), keyA, nonceA, "data", byB, api.ErrTag)
		opensNot(t, what+", an ideal box's by another", other, keyA, nonceA, "data", byB, api.ErrTag)
	}
}

// TestOpenOfTheRefused holds that a text that wasn't sealed isn't in the table.
func TestOpenOfTheRefused(t *testing.T) {
	draws := drawn(47, 30)
	b := Ideal(draws)
	sealsNot(t, "spent", b, keyA, nonceA, "data", drawn(48, 15), api.ErrSpent)
	opensNot(t, "spent", b, keyA, nonceA, "data", draws, api.ErrTag)
	seals(t, "first", b, keyA, nonceA, "data", "text", draws[:20], 1, 10)
	sealsNot(t, "twice", b, keyA, nonceA, "other", "txet", api.ErrTwice)
	opensNot(t, "twice", b, keyA, nonceA, "other", draws[:20], api.ErrTag)
	opens(t, "first", b, keyA, nonceA, "data", draws[:20], "text")
}

// P7.4

// TestLenAndLeft asks both ahead of each call and behind it, and twice.
func TestLenAndLeft(t *testing.T) {
	b := Ideal(drawn(49, 1000))
	left := 1000
	for i := range 20 {
		key, nonce, text := drawn(uint64(i%3), 32), drawn(uint64(i), 12), drawn(1, i)
		holds(t, "ahead", b, i, left)
		s := sealed(t, b, key, nonce, "", text)
		left -= i + 16
		holds(t, "sealed", b, i+1, left)
		holds(t, "asked again", b, i+1, left)
		seals(t, "again", b, key, nonce, "", text, s, i+1, left)
		opens(t, "opened", b, key, nonce, "", s, text)
		opensNot(t, "not opened", b, key, nonce, "data", s, api.ErrTag)
		sealsNot(t, "twice", b, key, nonce, "data", text, api.ErrTwice)
		sealsNot(t, "spent", b, keyB, nonce, "data", drawn(2, 1000), api.ErrSpent)
		sealsNot(t, "size", b, keyB, nonce[1:], "data", text, api.ErrSize)
	}
}

func TestRealHasNoTable(t *testing.T) {
	b := Real()
	for i := range 20 {
		s := sealed(t, b, keyA, drawn(uint64(i), 12), "", drawn(1, i))
		holds(t, "sealed", b, 0, 0)
		if _, e := b.Open(keyA, drawn(uint64(i), 12), "", s); e != api.OK {
			t.Errorf("%d: %d", i, e)
		}
		holds(t, "opened", b, 0, 0)
	}
}

// P7.5

// TestIdealMany holds boxes against the model by calls of all kinds, of few keys, nonces, data and texts, so that they meet again.
func TestIdealMany(t *testing.T) {
	for seed := range uint64(60) {
		chances := drawn(seed+100, 6*400)
		draws := drawn(seed+200, int(seed)*15)
		b, m := Ideal(draws), &model{draws: draws}
		for i := 0; i < len(chances); i += 6 {
			c := []byte(chances[i : i+6])
			key, nonce := drawn(uint64(c[0]%3), 32-int(c[0]/250)), drawn(uint64(c[1]%5), 12+int(c[1]/250))
			data, text := drawn(uint64(c[2]%2), int(c[2]%2)*3), drawn(uint64(c[3]%3), int(c[4]%3)*9)
			var got, want string
			var e, f api.Errno
			if c[5]%2 == 0 {
				got, e = b.Seal(key, nonce, data, text)
				want, f = m.seal(key, nonce, data, text)
			} else {
				bytes := draws[:min(len(draws), len(text)+16)]
				if n := len(m.rows); n > 0 {
					bytes = m.rows[int(c[5]/2)%n].sealed
				}
				got, e = b.Open(key, nonce, data, bytes)
				want, f = m.open(key, nonce, data, bytes)
			}
			if got != want || e != f || b.Len() != len(m.rows) || b.Left() != len(m.draws) {
				t.Fatalf("box %d, call %d: %x, %d, %d, %d; want %x, %d, %d, %d", seed, i/6, got, e, b.Len(), b.Left(), want, f, len(m.rows), len(m.draws))
			}
		}
		for _, r := range m.rows {
			opens(t, "at the end", b, r.key, r.nonce, r.data, r.sealed, r.text)
		}
	}
}

// TestIdealHangsOnSizes plays two boxes of the same draws, given other texts of as many bytes: both tell the same.
func TestIdealHangsOnSizes(t *testing.T) {
	draws := drawn(52, 1<<16)
	a, b := Ideal(draws), Ideal(draws)
	for i := range 40 {
		n := textSizes[i%len(textSizes)]
		key, nonce := drawn(uint64(i%4), 32), drawn(uint64(i), 12)
		texts := []string{drawn(uint64(i)+53, n), zeros(n)}
		s, e := a.Seal(key, nonce, "data", texts[0])
		u, f := b.Seal(key, nonce, "data", texts[1])
		if s != u || e != f || a.Len() != b.Len() || a.Left() != b.Left() {
			t.Errorf("call %d, %d bytes: %d and %d bytes sealed, %d and %d", i, n, len(s), len(u), e, f)
		}
		if e != api.OK {
			continue
		}
		opens(t, "one", a, key, nonce, "data", s, texts[0])
		opens(t, "the other", b, key, nonce, "data", s, texts[1])
	}
	if a.Left() > 1<<14 {
		t.Errorf("%d draws left: too many for a text to be refused", a.Left())
	}
}

// TestTwoBoxes holds that two boxes know nothing of each other.
func TestTwoBoxes(t *testing.T) {
	draws := drawn(54, 40)
	a, b, r := Ideal(draws), Ideal(draws), Real()
	seals(t, "one", a, keyA, nonceA, "data", "text", draws[:20], 1, 20)
	holds(t, "the other", b, 0, 40)
	opensNot(t, "the other", b, keyA, nonceA, "data", draws[:20], api.ErrTag)
	seals(t, "the other", b, keyA, nonceA, "other data", "other text", draws[:26], 1, 14)
	sealed(t, r, keyA, nonceA, "data", "text")
	holds(t, "the real one", r, 0, 0)
	seals(t, "one, again", a, keyA, nonceA, "data", "text", draws[:20], 1, 20)
	opens(t, "one", a, keyA, nonceA, "data", draws[:20], "text")
	opens(t, "the other", b, keyA, nonceA, "other data", draws[:26], "other text")
	opensNot(t, "the other's", a, keyA, nonceA, "other data", draws[:26], api.ErrTag)
}

// TestTheSameAgain holds that the same calls in the same order answer the same.
func TestTheSameAgain(t *testing.T) {
	play := func(b *Box) []string {
		var all []string
		for i := range 60 {
			key, nonce := drawn(uint64(i%4), 32), drawn(uint64(i%7), 12)
			s, e := b.Seal(key, nonce, "", drawn(uint64(i%3), i%3))
			u, f := b.Open(key, nonce, "", s)
			k, g := Key(key, s, uint64(i))
			all = append(all, s, u, k, string([]byte{byte(e), byte(f), byte(g), byte(b.Len()), byte(b.Left())}))
		}
		return all
	}
	if !slices.Equal(play(Ideal(drawn(55, 200))), play(Ideal(drawn(55, 200)))) {
		t.Error("ideal boxes answer otherwise")
	}
	if !slices.Equal(play(Real()), play(Real())) {
		t.Error("real boxes answer otherwise")
	}
}
