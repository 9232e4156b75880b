package chacha

import (
	"crypto/sha256"
	"encoding/binary"
	"encoding/hex"
	"math"
	"math/bits"
	"strings"
	"testing"

	"posthorn/api"
)

// drawn tells n bytes that look like chance, others of another seed, and the same in each run.
func drawn(seed uint64, n int) string {
	b := make([]byte, n)
	for i := range b {
		seed = seed*6364136223846793005 + 1442695040888963407
		b[i] = byte(seed >> 56)
	}
	return string(b)
}

// rising tells n bytes, each one more than the one ahead.
func rising(from byte, n int) string {
	b := make([]byte, n)
	for i := range b {
		b[i] = from + byte(i)
	}
	return string(b)
}

func zeros(n int) string {
	return strings.Repeat("\x00", n)
}

func unhex(t *testing.T, s string) string {
	t.Helper()
	b, err := hex.DecodeString(strings.ReplaceAll(s, " ", ""))
	if err != nil {
		t.Fatal(err)
	}
	return string(b)
}

// counters are those at a number's ends, and at those of its bytes.
var counters = []uint32{0, 1, 2, 255, 256, 65535, 65536, 1<<24 - 1, 1 << 31, 1<<31 - 1, 0x01020304, math.MaxUint32 - 1023, math.MaxUint32 - 2, math.MaxUint32 - 1, math.MaxUint32}

// sizes are those about a block's end, and about the end of what a stream may have.
var sizes = []int{0, 1, 2, 3, 4, 31, 32, 62, 63, 64, 65, 66, 127, 128, 129, 191, 192, 193, 1000, MaxStream - 65, MaxStream - 64, MaxStream - 63, MaxStream - 1, MaxStream}

// modelStir stirs the numbers at four places of x, by the chapter's words.
func modelStir(x []uint32, a, b, c, d int) {
	x[a] += x[b]
	x[d] = bits.RotateLeft32(x[d]^x[a], 16)
	x[c] += x[d]
	x[b] = bits.RotateLeft32(x[b]^x[c], 12)
	x[a] += x[b]
	x[d] = bits.RotateLeft32(x[d]^x[a], 8)
	x[c] += x[d]
	x[b] = bits.RotateLeft32(x[b]^x[c], 7)
}

// modelBlock tells a block by the chapter's words: of the places, the columns are stirred, and then the diagonals.
func modelBlock(key string, counter uint32, nonce string) string {
	var first [16]uint32
	for i := range 4 {
		first[i] = binary.LittleEndian.Uint32([]byte("expand 32-byte k"[4*i:]))
	}
	for i := range 8 {
		first[4+i] = binary.LittleEndian.Uint32([]byte(key[4*i:]))
	}
	first[12] = counter
	for i := range 3 {
		first[13+i] = binary.LittleEndian.Uint32([]byte(nonce[4*i:]))
	}
	x := first
	for range 10 {
		for i := range 4 {
			modelStir(x[:], i, 4+i, 8+i, 12+i)
		}
		for i := range 4 {
			modelStir(x[:], i, 4+(i+1)%4, 8+(i+2)%4, 12+(i+3)%4)
		}
	}
	var b []byte
	for i := range x {
		b = binary.LittleEndian.AppendUint32(b, x[i]+first[i])
	}
	return string(b)
}

// modelStream lays blocks one behind the other.
func modelStream(key string, counter uint32, nonce string, n int) string {
	var b strings.Builder
	for i := uint32(0); b.Len() < n; i++ {
		b.WriteString(modelBlock(key, counter+i, nonce))
	}
	return b.String()[:n]
}

// P4.1

func TestStirCases(t *testing.T) {
	for _, c := range []struct{ q, want [4]uint32 }{
		// The chapter's example.
		{[4]uint32{0x11111111, 0x01020304, 0x9b8d6f43, 0x01234567}, [4]uint32{0xea2a92f4, 0xcb1cf8ce, 0x4581472e, 0x5881c4bb}},
		// RFC 8439, 2.2.1.
		{[4]uint32{0x516461b1, 0x2a5f714c, 0x53372767, 0x3d631689}, [4]uint32{0xbdb886dc, 0xcfacafd2, 0xe46bea80, 0xccc07c79}},
		{[4]uint32{}, [4]uint32{}},
		// By hand: each of one bit, or of what goes round.
		{[4]uint32{1, 0, 0, 0}, [4]uint32{0x10000001, 0x80808808, 0x01010110, 0x01000110}},
		{[4]uint32{math.MaxUint32, 1, 0, 0}, [4]uint32{0x1000, 0x08080000, 0x100000, 0x100000}},
	} {
		if q := Stir(c.q); q != c.want {
			t.Errorf("%08x: %08x, want %08x", c.q, q, c.want)
		}
	}
}

func TestStirMany(t *testing.T) {
	check := func(q [4]uint32) {
		t.Helper()
		want := q
		modelStir(want[:], 0, 1, 2, 3)
		if got := Stir(q); got != want {
			t.Fatalf("%08x: %08x, want %08x", q, got, want)
		}
	}
	for bit := range 128 {
		var q, but [4]uint32
		q[bit/32] = 1 << (bit % 32)
		for i := range but {
			but[i] = ^q[i]
		}
		check(q)
		check(but)
	}
	for seed := range uint64(2000) {
		b := []byte(drawn(seed, 16))
		var q [4]uint32
		for i := range q {
			q[i] = binary.LittleEndian.Uint32(b[4*i:])
		}
		check(q)
	}
}

// blockCases are RFC 8439's of section 2.3.2 and appendix A.1, and some of another program's.
var blockCases = []struct {
	key     string
	counter uint32
	nonce   string
	want    string
}{
	{rising(0, 32), 1, "\x00\x00\x00\x09\x00\x00\x00\x4a\x00\x00\x00\x00", "10f1e7e4d13b5915500fdd1fa32071c4c7d1f4c733c068030422aa9ac3d46c4ed2826446079faa0914c2d705d98b02a2b5129cd1de164eb9cbd083e8a2503c4e"},
	{zeros(32), 0, zeros(12), "76b8e0ada0f13d90405d6ae55386bd28bdd219b8a08ded1aa836efcc8b770dc7da41597c5157488d7724e03fb8d84a376a43b8f41518a11cc387b669b2ee6586"},
	{zeros(32), 1, zeros(12), "9f07e7be5551387a98ba977c732d080dcb0f29a048e3656912c6533e32ee7aed29b721769ce64e43d57133b074d839d531ed1f28510afb45ace10a1f4b794d6f"},
	{zeros(31) + "\x01", 1, zeros(12), "3aeb5224ecf849929b9d828db1ced4dd832025e8018b8160b82284f3c949aa5a8eca00bbb4a73bdad192b5c42f73f2fd4e273644c8b36125a64addeb006c13a0"},
	{"\x00\xff" + zeros(30), 2, zeros(12), "72d54dfbf12ec44b362692df94137f328fea8da73990265ec1bbbea1ae9af0ca13b25aa26cb4a648cb9b9d1be65b2c0924a66c54d545ec1b7374f4872e99f096"},
	{zeros(32), 0, zeros(11) + "\x02", "c2c64d378cd536374ae204b9ef933fcd1a8b2288b3dfa49672ab765b54ee27c78a970e0e955c14f3a88e741b97c286f75f8fc299e8148362fa198a39531bed6d"},
	{strings.Repeat("\xff", 32), 0, strings.Repeat("\xff", 12), "d6e63495eafed7fc3bf8e7c419fa77be8234a6a49df517ebab06c8f65d9f7a17d3a64d4b97c911e6995b65c79336220cb63b703e25d3d45f5fee90a37bbe0535"},
	{strings.Repeat("\xff", 32), math.MaxUint32, strings.Repeat("\xff", 12), "d72b21cfa4b6b0c41d61f62b8a11159c6a4f63bc56c2035796c7ad37811121bbec56d54a530f3a933dd28a50feb23bfaf64f405be985f3718bdf4683e96be749"},
	{zeros(32), math.MaxUint32, zeros(12), "ace4cd09e294d1912d4ad205d06f95d9c2f2bfcf453e8753f128765b62215f4d92c74f2f626c6a640c0b1284d839ec81f1696281dafc3e684593937023b58b1d"},
	{rising(0, 32), 1 << 31, rising(64, 12), "77ce7d678fb9d7add02ee26963b133d8930b027a998f91d4a50af12489dc3bce113eec6e896671bda8cf13da9ac43508ff7690a5ec830241cbdf128432f33e27"},
	{rising(200, 32), 0x01020304, rising(250, 12), "8f4e6351f770d25a8a6e7272edd2c8fe510e4f89d81ad6c5c7138d00e7decb48be34ac58c6d02bec1563a5a28e16761744dbe007c8057a41285563fbf47ff188"},
}

func TestBlockCases(t *testing.T) {
	for i, c := range blockCases {
		if b, e := Block(c.key, c.counter, c.nonce); b != unhex(t, c.want) || e != api.OK {
			t.Errorf("case %d: %x, %d; want %s", i, b, e, c.want)
		}
	}
}

func TestBlockMany(t *testing.T) {
	for seed := range uint64(300) {
		key, nonce := drawn(seed, 32), drawn(seed+1000, 12)
		for _, counter := range counters {
			b, e := Block(key, counter, nonce)
			if want := modelBlock(key, counter, nonce); b != want || e != api.OK {
				t.Fatalf("key %x, counter %d, nonce %x: %x, %d; want %x", key, counter, nonce, b, e, want)
			}
		}
	}
}

func TestMaxStream(t *testing.T) {
	if MaxStream != 65536 {
		t.Errorf("%d", MaxStream)
	}
}

// TestStreamDigests holds the longest streams against those of another program, told by their SHA-256.
func TestStreamDigests(t *testing.T) {
	for i, c := range []struct {
		key     string
		counter uint32
		nonce   string
		want    string
	}{
		{rising(0, 32), 0, rising(0, 12), "d000e990fa37d4f916ad9c9fce527d0e26703d8035248989088654d5544270aa"},
		{rising(0, 32), 1, rising(0, 12), "febd063d10280503126cfc318b675bad737317df84bd79f03932cbfbc9b95d48"},
		{rising(0, 32), 255, rising(0, 12), "499acd2225f98fc18223efdead636cc908fa9fccacfc03a97cd4753bbb82d142"},
		{rising(0, 32), 65535, rising(0, 12), "e4e02bcea965e3cd31c03367f9a3fea15adaf62c70d3efc3504f2509bc8cb450"},
		{rising(100, 32), math.MaxUint32 - 1023, rising(7, 12), "0c87a470b0f42bbb5df76a0274cdf55add062a04a139a72e927ce0d4e1e46ecd"},
	} {
		s, e := Stream(c.key, c.counter, c.nonce, MaxStream)
		if sum := sha256.Sum256([]byte(s)); hex.EncodeToString(sum[:]) != c.want || len(s) != MaxStream || e != api.OK {
			t.Errorf("case %d: %d bytes of digest %x, %d; want %s", i, len(s), sum, e, c.want)
		}
	}
}

func TestStreamSizes(t *testing.T) {
	key, nonce := drawn(1, 32), drawn(2, 12)
	for _, counter := range counters {
		all := modelStream(key, counter, nonce, MaxStream)
		for _, n := range sizes {
			if s, e := Stream(key, counter, nonce, n); s != all[:n] || e != api.OK {
				t.Errorf("counter %d, %d bytes: %d bytes, %d", counter, n, len(s), e)
			}
		}
	}
	for n := range 300 {
		if s, e := Stream(key, 5, nonce, n); s != modelStream(key, 5, nonce, n) || e != api.OK {
			t.Errorf("%d bytes: %x, %d", n, s, e)
		}
	}
}

// TestStreamGoesRound asks each block of a stream whose counter goes round in it.
func TestStreamGoesRound(t *testing.T) {
	key, nonce := drawn(3, 32), drawn(4, 12)
	for _, blocks := range []uint32{1, 2, 3, 500, 1023} {
		counter := -blocks
		s, e := Stream(key, counter, nonce, MaxStream)
		if len(s) != MaxStream || e != api.OK {
			t.Fatalf("counter %d: %d bytes, %d", counter, len(s), e)
		}
		for i := range uint32(MaxStream / 64) {
			b, e := Block(key, counter+i, nonce)
			if s[64*i:64*(i+1)] != b || e != api.OK {
				t.Fatalf("counter %d: the block of %d: %x, %d; want %x", counter, counter+i, s[64*i:64*(i+1)], e, b)
			}
		}
	}
}

// turnCases are RFC 8439's of section 2.4.2 and appendix A.2.
var turnCases = []struct {
	key     string
	counter uint32
	nonce   string
	text    string
	want    string
}{
	{
		"000102030405060708090a0b0c0d0e0f101112131415161718191a1b1c1d1e1f", 1, "000000000000004a00000000",
		"Ladies and Gentlemen of the class of '99: If I could offer you only one tip for the future, sunscreen would be it.",
		"6e2e359a2568f98041ba0728dd0d6981e97e7aec1d4360c20a27afccfd9fae0bf91b65c5524733ab8f593dabcd62b3571639d624e65152ab8f530c359f0861d807ca0dbf500d6a6156a38e088a22b65e52bc514d16ccf806818ce91ab77937365af90bbf74a35be6b40b8eedf2785e42874d",
	},
	{
		"0000000000000000000000000000000000000000000000000000000000000001", 1, "000000000000000000000002",
		"Any submission to the IETF intended by the Contributor for publication as all or part of an IETF Internet-Draft or RFC and any statement made within the context of an IETF activity is considered an \"IETF Contribution\". Such statements include oral statements in IETF sessions, as well as written and electronic communications made at any time or place, which are addressed to",
		"a3fbf07df3fa2fde4f376ca23e82737041605d9f4f4f57bd8cff2c1d4b7955ec2a97948bd3722915c8f3d337f7d370050e9e96d647b7c39f56e031ca5eb6250d4042e02785ececfa4b4bb5e8ead0440e20b6e8db09d881a7c6132f420e52795042bdfa7773d8a9051447b3291ce1411c680465552aa6c405b7764d5e87bea85ad00f8449ed8f72d0d662ab052691ca66424bc86d2df80ea41f43abf937d3259dc4b2d0dfb48a6c9139ddd7f76966e928e635553ba76c5c879d7b35d49eb2e62b0871cdac638939e25e8a1e0ef9d5280fa8ca328b351c3c765989cbcf3daa8b6ccc3aaf9f3979c92b3720fc88dc95ed84a1be059c6499b9fda236e7e818b04b0bc39c1e876b193bfe5569753f88128cc08aaa9b63d1a16f80ef2554d7189c411f5869ca52c5b83fa36ff216b9c1d30062bebcfd2dc5bce0911934fda79a86f6e698ced759c3ff9b6477338f3da4f9cd8514ea9982ccafb341b2384dd902f3d1ab7ac61dd29c6f21ba5b862f3730e37cfdc4fd806c22f221",
	},
	{
		"1c9240a5eb55d38af333888604f6b5f0473917c1402b80099dca5cbc207075c0", 42, "000000000000000000000002",
		"'Twas brillig, and the slithy toves\nDid gyre and gimble in the wabe:\nAll mimsy were the borogoves,\nAnd the mome raths outgrabe.",
		"62e6347f95ed87a45ffae7426f27a1df5fb69110044c0d73118effa95b01e5cf166d3df2d721caf9b21e5fb14c616871fd84c54f9d65b283196c7fe4f60553ebf39c6402c42234e32a356b3e764312a61a5532055716ead6962568f87d3f3f7704c6a8d1bcd1bf4d50d6154b6da731b187b58dfd728afa36757a797ac188d1",
	},
}

func TestTurnCases(t *testing.T) {
	for i, c := range turnCases {
		key, nonce, want := unhex(t, c.key), unhex(t, c.nonce), unhex(t, c.want)
		if s, e := Turn(key, c.counter, nonce, c.text); s != want || e != api.OK {
			t.Errorf("case %d: %x, %d; want %x", i, s, e, want)
		}
		if s, e := Turn(key, c.counter, nonce, want); s != c.text || e != api.OK {
			t.Errorf("case %d: back %q, %d", i, s, e)
		}
	}
}

func TestTurnSizes(t *testing.T) {
	key, nonce, text := drawn(5, 32), drawn(6, 12), drawn(7, MaxStream)
	for _, counter := range counters {
		turned := []byte(modelStream(key, counter, nonce, MaxStream))
		for i := range turned {
			turned[i] ^= text[i]
		}
		for _, n := range sizes {
			if s, e := Turn(key, counter, nonce, text[:n]); s != string(turned[:n]) || e != api.OK {
				t.Errorf("counter %d, %d bytes: %d bytes, %d", counter, n, len(s), e)
			}
		}
	}
}

func TestTurnOfZerosIsTheStream(t *testing.T) {
	key, nonce := drawn(8, 32), drawn(9, 12)
	for _, n := range sizes {
		want, _ := Stream(key, math.MaxUint32, nonce, n)
		if s, e := Turn(key, math.MaxUint32, nonce, zeros(n)); s != want || len(s) != n || e != api.OK {
			t.Errorf("%d bytes: %d bytes, %d", n, len(s), e)
		}
	}
}

// TestWrongKeyOrNonce asks of no bytes, too: nothing is told that hangs on a key of another size.
func TestWrongKeyOrNonce(t *testing.T) {
	check := func(key, nonce string) {
		t.Helper()
		for _, counter := range []uint32{0, 1, math.MaxUint32} {
			if b, e := Block(key, counter, nonce); b != "" || e != api.ErrSize {
				t.Errorf("key of %d bytes, nonce of %d: block of %d bytes, %d", len(key), len(nonce), len(b), e)
			}
			for _, n := range []int{-1, 0, 1, 64, 65, MaxStream, MaxStream + 1} {
				if s, e := Stream(key, counter, nonce, n); s != "" || e != api.ErrSize {
					t.Errorf("key of %d bytes, nonce of %d, %d bytes: %d bytes, %d", len(key), len(nonce), n, len(s), e)
				}
				if s, e := Turn(key, counter, nonce, zeros(max(n, 0))); s != "" || e != api.ErrSize {
					t.Errorf("key of %d bytes, nonce of %d, text of %d: %d bytes, %d", len(key), len(nonce), n, len(s), e)
				}
			}
		}
	}
	for _, n := range []int{0, 1, 12, 16, 31, 33, 44, 64, 1000} {
		check(zeros(n), zeros(12))
	}
	for _, n := range []int{0, 1, 8, 11, 13, 16, 24, 32, 1000} {
		check(zeros(32), zeros(n))
	}
	// Of these, both together are as long as those that may be.
	for _, n := range []int{-32, -12, -1, 1, 12} {
		check(zeros(32+n), zeros(12-n))
	}
	check("", "")
}

// TestStreamWrongSizes stops at the first fault: what comes behind it would need no end of memory.
func TestStreamWrongSizes(t *testing.T) {
	key, nonce := rising(0, 32), rising(0, 12)
	for _, n := range []int{-1, -2, -63, -64, -MaxStream, math.MinInt32, math.MinInt, MaxStream + 1, MaxStream + 63, MaxStream + 64, 2 * MaxStream, math.MaxInt32, 1 << 32, 1<<32 + 64, math.MaxInt} {
		if s, e := Stream(key, 0, nonce, n); s != "" || e != api.ErrSize {
			t.Fatalf("%d bytes: %d bytes, %d", n, len(s), e)
		}
	}
}

func TestTurnWrongSizes(t *testing.T) {
	key, nonce := rising(0, 32), rising(0, 12)
	for _, n := range []int{MaxStream + 1, MaxStream + 63, MaxStream + 64, 2 * MaxStream, 1 << 24} {
		if s, e := Turn(key, 0, nonce, strings.Repeat("a", n)); s != "" || e != api.ErrSize {
			t.Errorf("%d bytes: %d bytes, %d", n, len(s), e)
		}
	}
}

// P4.2

func TestTurnTwice(t *testing.T) {
	for i, n := range sizes {
		key, nonce, text := drawn(uint64(i), 32), drawn(uint64(i)+100, 12), drawn(uint64(i)+200, n)
		for _, counter := range counters {
			once, e := Turn(key, counter, nonce, text)
			if len(once) != n || e != api.OK {
				t.Errorf("counter %d, %d bytes: once %d bytes, %d", counter, n, len(once), e)
			}
			if n > 30 && once == text {
				t.Errorf("counter %d, %d bytes: once, and nothing is turned", counter, n)
			}
			if twice, e := Turn(key, counter, nonce, once); twice != text || e != api.OK {
				t.Errorf("counter %d, %d bytes: twice %d bytes, %d, and not as at first", counter, n, len(twice), e)
			}
		}
	}
}

func TestStreamRest(t *testing.T) {
	key, nonce := drawn(10, 32), drawn(11, 12)
	for _, counter := range counters {
		all, e := Stream(key, counter, nonce, MaxStream)
		if len(all) != MaxStream || e != api.OK {
			t.Fatalf("counter %d: %d bytes, %d", counter, len(all), e)
		}
		for _, later := range []int{0, 1, 2, 3, 7, 500, 1022, 1023} {
			rest := all[64*later:]
			if s, e := Stream(key, counter+uint32(later), nonce, len(rest)); s != rest || e != api.OK {
				t.Errorf("counter %d, %d later: %d bytes, %d, and not the rest", counter, later, len(s), e)
			}
		}
	}
}

func TestTurnRest(t *testing.T) {
	key, nonce, text := drawn(12, 32), drawn(13, 12), drawn(14, 10*64+5)
	for _, counter := range counters {
		all, _ := Turn(key, counter, nonce, text)
		for later := range 11 {
			head, _ := Turn(key, counter, nonce, text[:64*later])
			rest, e := Turn(key, counter+uint32(later), nonce, text[64*later:])
			if head+rest != all || len(all) != len(text) || e != api.OK {
				t.Errorf("counter %d, %d later: %d and %d bytes, %d, and not the same", counter, later, len(head), len(rest), e)
			}
		}
	}
}

// TestAgain asks the same thing twice, with others between.
func TestAgain(t *testing.T) {
	key, nonce, text := drawn(15, 32), drawn(16, 12), drawn(17, 200)
	ask := func() string {
		b, _ := Block(key, 7, nonce)
		s, _ := Stream(key, 7, nonce, 200)
		u, _ := Turn(key, 7, nonce, text)
		return b + s + u
	}
	first := ask()
	Stream(drawn(18, 32), 9, drawn(19, 12), MaxStream)
	Block("", 0, "")
	if second := ask(); second != first || len(first) != 64+200+200 {
		t.Errorf("%x, and then %x", first, second)
	}
}
