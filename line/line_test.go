package line

import (
	"math"
	"slices"
	"strings"
	"testing"

	"posthorn/api"
)

// drawn tells n bytes of those in of that look like chance, others of another seed, and the same in each run.
func drawn(seed uint64, of string, n int) string {
	b := make([]byte, n)
	for i := range b {
		seed = seed*6364136223846793005 + 1442695040888963407
		b[i] = of[int(seed>>33)%len(of)]
	}
	return string(b)
}

// letters tells n bytes that are neither a dot nor of an end.
func letters(n int) string {
	return drawn(uint64(n), "abcdefgh", n)
}

// texts tells all texts of up to n bytes of those in of.
func texts(of string, n int) []string {
	all := []string{""}
	from := 0
	for range n {
		to := len(all)
		for _, s := range all[from:to] {
			for i := range len(of) {
				all = append(all, s+of[i:i+1])
			}
		}
		from = to
	}
	return all
}

// kinds has the bytes that something hangs on, and one other.
const kinds = "\r\n.a"

// pieces cuts s into pieces of n bytes.
func pieces(s string, n int) []string {
	var all []string
	for len(s) > n {
		all, s = append(all, s[:n]), s[n:]
	}
	return append(all, s)
}

// modelSplit tells lines by the chapter's words: byte by byte, up to where 13 and 10 stand for the first time.
func modelSplit(s string) ([]string, string) {
	var l []string
	from := 0
	for i := 1; i < len(s); i++ {
		if i > from && s[i-1] == 13 && s[i] == 10 {
			l = append(l, s[from:i-1])
			from = i + 1
		}
	}
	return l, s[from:]
}

// modelUnstuffed tells lines up to the one of one dot, by the chapter's words.
func modelUnstuffed(s string) ([]string, string, bool) {
	lines, _ := modelSplit(s)
	var l []string
	at := 0
	for _, x := range lines {
		at += len(x) + 2
		if x == "." {
			return l, s[at:], true
		}
		if len(x) > 0 && x[0] == '.' {
			x = x[1:]
		}
		l = append(l, x)
	}
	return nil, "", false
}

// told is what a reader told: a line, or that it is too long.
type told struct {
	line string
	e    api.Errno
}

// modelTold is what a reader of most tells of s, and how many bytes are left.
func modelTold(most int, s string) ([]told, int) {
	lines, rest := modelSplit(s)
	var all []told
	for _, x := range lines {
		if len(x) > most {
			all = append(all, told{"", api.ErrSize})
		} else {
			all = append(all, told{x, api.OK})
		}
	}
	return all, len(rest)
}

// made makes a reader.
func made(t *testing.T, most int) *Reader {
	t.Helper()
	r := New(most)
	if r == nil {
		t.Fatalf("%d: no reader", most)
	}
	return r
}

// adds lets s come, and holds how many bytes are there behind it.
func adds(t *testing.T, r *Reader, s string) {
	t.Helper()
	n := r.Len()
	r.Add(s)
	if r.Len() != n+len(s) {
		t.Errorf("%q comes: %d bytes behind it, %d ahead", s, r.Len(), n)
	}
}

// tells holds the next line, and that as many bytes go as it has with its end.
func tells(t *testing.T, r *Reader, want string) {
	t.Helper()
	n := r.Len()
	if s, e, is := r.Next(); s != want || e != api.OK || !is {
		t.Errorf("%q, %d, %v; want %q", s, e, is, want)
	}
	if r.Len() != n-len(want)-2 {
		t.Errorf("%q: %d bytes behind it, %d ahead", want, r.Len(), n)
	}
}

// tellsLong holds that the next line is too long, and that n bytes go with it.
func tellsLong(t *testing.T, r *Reader, n int) {
	t.Helper()
	was := r.Len()
	if s, e, is := r.Next(); s != "" || e != api.ErrSize || !is {
		t.Errorf("%q, %d, %v; want that it is too long", s, e, is)
	}
	if r.Len() != was-n {
		t.Errorf("too long: %d bytes behind it, %d ahead; want %d to go", r.Len(), was, n)
	}
}

// tellsNone holds, also when asked again, that no line has come whole, and that n bytes are there.
func tellsNone(t *testing.T, r *Reader, n int) {
	t.Helper()
	for range 3 {
		if r.Len() != n {
			t.Errorf("%d bytes, want %d", r.Len(), n)
		}
		if s, e, is := r.Next(); s != "" || e != api.OK || is {
			t.Errorf("%q, %d, %v; want none", s, e, is)
		}
	}
	if r.Len() != n {
		t.Errorf("%d bytes behind it, want %d", r.Len(), n)
	}
}

// tellsAll tells what a reader tells till it tells none.
func tellsAll(r *Reader) []told {
	var all []told
	for {
		s, e, is := r.Next()
		if !is {
			return all
		}
		all = append(all, told{s, e})
	}
}

// P8.1

func TestNew(t *testing.T) {
	if MaxLine != 1000 {
		t.Errorf("MaxLine: %d", MaxLine)
	}
	for _, most := range []int{1, 2, 3, 510, 998, 999, 1000} {
		r := New(most)
		if r == nil {
			t.Errorf("%d: none", most)
			continue
		}
		tellsNone(t, r, 0)
	}
	for _, most := range []int{0, -1, -2, -1000, 1001, 1002, 2000, 65536 + 1, math.MaxInt32, math.MinInt32, math.MaxInt, math.MinInt} {
		if New(most) != nil {
			t.Errorf("%d: a reader", most)
		}
	}
}

// TestReaderExample is the chapter's example.
func TestReaderExample(t *testing.T) {
	const s = "ab\r\n\rc\r\nd"
	r := made(t, MaxLine)
	adds(t, r, s)
	tells(t, r, "ab")
	tells(t, r, "\rc")
	tellsNone(t, r, 1)
	adds(t, r, "\r\n")
	tells(t, r, "d")
	tellsNone(t, r, 0)
	if l, rest := Split(s); !slices.Equal(l, []string{"ab", "\rc"}) || rest != "d" {
		t.Errorf("%q, %q", l, rest)
	}
}

func TestReaderMost(t *testing.T) {
	for _, most := range []int{1, 2, 3, 999, MaxLine} {
		r := made(t, most)
		for _, n := range []int{0, most - 1, most, 0} {
			adds(t, r, letters(n)+"\r\n")
			tells(t, r, letters(n))
			tellsNone(t, r, 0)
		}
		for _, n := range []int{most + 1, most + 2, most + 3, 2 * most, 10*most + 100} {
			adds(t, r, letters(n)+"\r\n")
			tellsLong(t, r, n+2)
			tellsNone(t, r, 0)
		}
		// Lines stand behind the one that is too long, and are told.
		adds(t, r, letters(most)+"\r\n"+letters(most+1)+"\r\n"+letters(most)+"\r\n\r\n"+letters(most+2)+"\r\n"+letters(3*most+1)+"\r\na\r\nb")
		tells(t, r, letters(most))
		tellsLong(t, r, most+3)
		tells(t, r, letters(most))
		tells(t, r, "")
		tellsLong(t, r, most+4)
		tellsLong(t, r, 3*most+3)
		tells(t, r, "a")
		tellsNone(t, r, 1)
	}
}

// TestReaderMostOfEnds holds that bytes 13 and 10 that aren't of an end are counted, and those that are, aren't.
func TestReaderMostOfEnds(t *testing.T) {
	r := made(t, 3)
	adds(t, r, "a\r\r\r\n"+"\r\r\r\r\n"+"\n\r\r\n"+"\n\n\n\r\n"+"\n\n\n\n\r\n"+"ab\r\r\n"+"abc\r\r\n")
	tells(t, r, "a\r\r")
	tells(t, r, "\r\r\r")
	tells(t, r, "\n\r")
	tells(t, r, "\n\n\n")
	tellsLong(t, r, 6)
	tells(t, r, "ab\r")
	tellsLong(t, r, 6)
	tellsNone(t, r, 0)
}

// TestReaderLongUnended holds that a line is told to be too long when its end has come, not ahead.
func TestReaderLongUnended(t *testing.T) {
	r := made(t, 2)
	n := 0
	for range 5000 {
		adds(t, r, "abc")
		n += 3
		if s, e, is := r.Next(); s != "" || e != api.OK || is {
			t.Fatalf("%q, %d, %v ahead of the end", s, e, is)
		}
	}
	adds(t, r, "\r")
	tellsNone(t, r, n+1)
	adds(t, r, "\nab\r\n")
	tellsLong(t, r, n+2)
	tells(t, r, "ab")
	tellsNone(t, r, 0)
}

// TestReaderEnds has ends that aren't whole, twice, turned round, and in two pieces.
func TestReaderEnds(t *testing.T) {
	for _, c := range []struct {
		come []string
		want []string
		left int
	}{
		{nil, nil, 0},
		{[]string{""}, nil, 0},
		{[]string{"", "", ""}, nil, 0},
		{[]string{"\r"}, nil, 1},
		{[]string{"\n"}, nil, 1},
		{[]string{"\n\r"}, nil, 2},
		{[]string{"\n", "\r"}, nil, 2},
		{[]string{"\r\r"}, nil, 2},
		{[]string{"\n\n"}, nil, 2},
		{[]string{"\ra\n"}, nil, 3},
		{[]string{"\r", "a", "\n"}, nil, 3},
		{[]string{"a\r", "b", "\nc"}, nil, 5},
		{[]string{"\r\n"}, []string{""}, 0},
		{[]string{"\r", "\n"}, []string{""}, 0},
		{[]string{"\r", "", "\n"}, []string{""}, 0},
		{[]string{"", "\r", "", "", "\n", ""}, []string{""}, 0},
		{[]string{"a\r", "\nb"}, []string{"a"}, 1},
		{[]string{"a\r", "\r\nb"}, []string{"a\r"}, 1},
		{[]string{"a\r\r", "\nb"}, []string{"a\r"}, 1},
		{[]string{"a\n\r", "\nb"}, []string{"a\n"}, 1},
		{[]string{"a\r\n\nb"}, []string{"a"}, 2},
		{[]string{"a\r\n", "\n", "b"}, []string{"a"}, 2},
		{[]string{"a\r", "\n\n", "\r\n"}, []string{"a", "\n"}, 0},
		{[]string{"\r\r\n\n"}, []string{"\r"}, 1},
		{[]string{"\r", "\r", "\n", "\n"}, []string{"\r"}, 1},
		{[]string{"\r\n\r\n"}, []string{"", ""}, 0},
		{[]string{"\r", "\n\r", "\n"}, []string{"", ""}, 0},
		{[]string{"\r\n\r"}, []string{""}, 1},
		{[]string{"\r\n", "\r"}, []string{""}, 1},
		{[]string{"a\nb\rc\r\nd\n\r\ne"}, []string{"a\nb\rc", "d\n"}, 1},
		{[]string{"a\x00\x0d\x0a\xff\x8d\x8a\r\n"}, []string{"a\x00", "\xff\x8d\x8a"}, 0},
	} {
		for _, between := range []bool{false, true} {
			r := made(t, MaxLine)
			var got []told
			for _, s := range c.come {
				adds(t, r, s)
				if between {
					got = append(got, tellsAll(r)...)
				}
			}
			got = append(got, tellsAll(r)...)
			var want []told
			for _, s := range c.want {
				want = append(want, told{s, api.OK})
			}
			if !slices.Equal(got, want) {
				t.Errorf("%q (asked between: %v): %+v, want %+v", c.come, between, got, want)
			}
			tellsNone(t, r, c.left)
		}
	}
}

// TestReaderBetween asks between pieces, and behind the last line.
func TestReaderBetween(t *testing.T) {
	r := made(t, 10)
	tellsNone(t, r, 0)
	adds(t, r, "ab")
	tellsNone(t, r, 2)
	adds(t, r, "")
	tellsNone(t, r, 2)
	adds(t, r, "c\r")
	tellsNone(t, r, 4)
	adds(t, r, "\nde\r\n\r\nf")
	tells(t, r, "abc")
	adds(t, r, "g\r\n")
	tells(t, r, "de")
	tells(t, r, "")
	tells(t, r, "fg")
	tellsNone(t, r, 0)
	adds(t, r, "\r")
	tellsNone(t, r, 1)
	adds(t, r, "x")
	tellsNone(t, r, 2)
	adds(t, r, "\n")
	tellsNone(t, r, 3)
	adds(t, r, "\r\n")
	tells(t, r, "\rx\n")
	tellsNone(t, r, 0)
	// A byte 10 ahead of which an end was told is no end with its byte 13.
	adds(t, r, "a\r\n")
	tells(t, r, "a")
	adds(t, r, "\n")
	tellsNone(t, r, 1)
	adds(t, r, "\r\n")
	tells(t, r, "\n")
	tellsNone(t, r, 0)
}

// TestReaderOneByOne lets bytes come one by one, asked behind each.
func TestReaderOneByOne(t *testing.T) {
	for _, n := range []int{0, 1, MaxLine - 1, MaxLine, MaxLine + 1, 3 * MaxLine} {
		r := made(t, MaxLine)
		s := letters(n) + "\r\n"
		for i := range len(s) {
			tellsNone(t, r, i)
			adds(t, r, s[i:i+1])
		}
		if n > MaxLine {
			tellsLong(t, r, n+2)
		} else {
			tells(t, r, letters(n))
		}
		tellsNone(t, r, 0)
	}
}

// TestReaderManyLines lets many lines come in one piece.
func TestReaderManyLines(t *testing.T) {
	var s strings.Builder
	for n := range 1100 {
		s.WriteString(letters(n) + "\r\n")
	}
	r := made(t, MaxLine)
	adds(t, r, s.String()+"rest")
	for n := range 1100 {
		if n > MaxLine {
			tellsLong(t, r, n+2)
		} else {
			tells(t, r, letters(n))
		}
	}
	tellsNone(t, r, 4)
	adds(t, r, "\r\n")
	tells(t, r, "rest")
}

// TestReaderLines holds that told lines stay what they were, whatever comes behind them.
func TestReaderLines(t *testing.T) {
	r := made(t, 8)
	var got, want []string
	for i := range 200 {
		s := letters(i % 9)
		r.Add(s + "\r\n")
		r.Add(letters(3)[:i%4])
		x, _, _ := r.Next()
		got, want = append(got, x), append(want, s)
		r.Add("\r\n")
		r.Next()
	}
	if !slices.Equal(got, want) {
		t.Errorf("%q, want %q", got, want)
	}
}

// TestReadersApart holds that readers share nothing.
func TestReadersApart(t *testing.T) {
	a, b := made(t, 5), made(t, 2)
	adds(t, a, "abc\r")
	tellsNone(t, b, 0)
	adds(t, b, "\nab\r\n")
	tellsNone(t, a, 4)
	tellsLong(t, b, 5)
	adds(t, a, "\n")
	tells(t, a, "abc")
	tellsNone(t, a, 0)
	tellsNone(t, b, 0)
}

// P8.2

// splits holds lines and what stands behind, and that they are s again.
func splits(t *testing.T, s string, want []string, rest string) {
	t.Helper()
	l, behind := Split(s)
	if !slices.Equal(l, want) || behind != rest {
		t.Errorf("%q: %q, %q; want %q, %q", s, l, behind, want, rest)
	}
	if back := Join(l) + behind; back != s {
		t.Errorf("%q: %q joined", s, back)
	}
}

func TestSplit(t *testing.T) {
	splits(t, "", nil, "")
	splits(t, "a", nil, "a")
	splits(t, "\r", nil, "\r")
	splits(t, "\n", nil, "\n")
	splits(t, "\n\r", nil, "\n\r")
	splits(t, "\r\n", []string{""}, "")
	splits(t, "a\r\n", []string{"a"}, "")
	splits(t, "a\r\nb", []string{"a"}, "b")
	splits(t, "a\r\n\r\nb\r\n", []string{"a", "", "b"}, "")
	splits(t, "\r\n\r\n\r\n", []string{"", "", ""}, "")
	splits(t, "a\r\r\n\n\r\n\r", []string{"a\r", "\n"}, "\r")
	splits(t, "a\nb\r\n.\r\n..c\r\n", []string{"a\nb", ".", "..c"}, "")
	splits(t, "\x00\xff\r\n\xc3\r\n\x28", []string{"\x00\xff", "\xc3"}, "\x28")
	for _, n := range []int{MaxLine - 1, MaxLine, MaxLine + 1, MaxLine + 2, 20000} {
		splits(t, letters(n), nil, letters(n))
		splits(t, letters(n)+"\r\n", []string{letters(n)}, "")
		splits(t, "\r\n"+letters(n)+"\r\n"+letters(n+1)+"\r\n"+letters(n), []string{"", letters(n), letters(n + 1)}, letters(n))
	}
}

func TestJoin(t *testing.T) {
	for _, c := range []struct {
		l    []string
		want string
	}{
		{nil, ""},
		{[]string{}, ""},
		{[]string{""}, "\r\n"},
		{[]string{"", "", ""}, "\r\n\r\n\r\n"},
		{[]string{"a"}, "a\r\n"},
		{[]string{"a", "", "b c"}, "a\r\n\r\nb c\r\n"},
		{[]string{".", "..", ".a"}, ".\r\n..\r\n.a\r\n"},
		{[]string{"\r", "\n", "\n\r", "a\rb\nc"}, "\r\r\n\n\r\n\n\r\r\na\rb\nc\r\n"},
		{[]string{"a\r\nb"}, "a\r\nb\r\n"},
		{[]string{letters(1001)}, letters(1001) + "\r\n"},
	} {
		if s := Join(c.l); s != c.want {
			t.Errorf("%q: %q, want %q", c.l, s, c.want)
		}
	}
}

func TestStuff(t *testing.T) {
	for _, c := range []struct {
		l    []string
		want string
	}{
		{nil, ".\r\n"},
		{[]string{}, ".\r\n"},
		{[]string{""}, "\r\n.\r\n"},
		{[]string{"", ""}, "\r\n\r\n.\r\n"},
		{[]string{"a", "b"}, "a\r\nb\r\n.\r\n"},
		{[]string{".a"}, "..a\r\n.\r\n"},
		{[]string{"..a"}, "...a\r\n.\r\n"},
		{[]string{"."}, "..\r\n.\r\n"},
		{[]string{".."}, "...\r\n.\r\n"},
		{[]string{"...", ".", "."}, "....\r\n..\r\n..\r\n.\r\n"},
		{[]string{"a.", " .", "a..b"}, "a.\r\n .\r\na..b\r\n.\r\n"},
		{[]string{"\r", "\n", ".\r", ".\n", "\n.", "\r."}, "\r\r\n\n\r\n..\r\r\n..\n\r\n\n.\r\n\r.\r\n.\r\n"},
		{[]string{"a\r\n.b"}, "a\r\n.b\r\n.\r\n"},
		{[]string{".\r\n."}, "..\r\n.\r\n.\r\n"},
		{[]string{"." + letters(999), letters(1001)}, ".." + letters(999) + "\r\n" + letters(1001) + "\r\n.\r\n"},
	} {
		if s := Stuff(c.l); s != c.want {
			t.Errorf("%q: %q, want %q", c.l, s, c.want)
		}
	}
}

func TestUnstuff(t *testing.T) {
	for s, want := range map[string]string{
		"": "", "a": "a", "a.": "a.", " .": " .", "..": ".", "...": "..", "....": "...", ".a": "a", "..a": ".a", ". ": " ",
		".\r": "\r", ".\n": "\n", ".\r\n": "\r\n", "\r.": "\r.", "\n.": "\n.", "a\r\n.": "a\r\n.", ".\x00": "\x00",
		"." + letters(1000): letters(1000), letters(1001): letters(1001),
	} {
		if x, last := Unstuff(s); x != want || last {
			t.Errorf("%q: %q, %v; want %q", s, x, last, want)
		}
	}
	if x, last := Unstuff("."); x != "" || !last {
		t.Errorf("one dot: %q, %v", x, last)
	}
}

// unstuffs holds lines up to the end, and what stands behind.
func unstuffs(t *testing.T, s string, want []string, rest string) {
	t.Helper()
	if l, behind, is := Unstuffed(s); !slices.Equal(l, want) || behind != rest || !is {
		t.Errorf("%q: %q, %q, %v; want %q, %q", s, l, behind, is, want, rest)
	}
}

func TestUnstuffed(t *testing.T) {
	unstuffs(t, ".\r\n", nil, "")
	unstuffs(t, ".\r\na", nil, "a")
	unstuffs(t, ".\r\n.\r\n", nil, ".\r\n")
	unstuffs(t, ".\r\na\r\n.\r\n", nil, "a\r\n.\r\n")
	unstuffs(t, "\r\n.\r\n", []string{""}, "")
	unstuffs(t, "\r\n\r\n.\r\n\r\n", []string{"", ""}, "\r\n")
	unstuffs(t, "a\r\n.\r\nQUIT\r\n", []string{"a"}, "QUIT\r\n")
	unstuffs(t, "a\r\n.\r\nb\r\n.\r\n", []string{"a"}, "b\r\n.\r\n")
	unstuffs(t, "..\r\n...\r\n....\r\n.\r\n", []string{".", "..", "..."}, "")
	unstuffs(t, ".a\r\n..b\r\n...c\r\n.\r\n.d", []string{"a", ".b", "..c"}, ".d")
	unstuffs(t, "a.\r\n .\r\n.\r\n\r", []string{"a.", " ."}, "\r")
	unstuffs(t, ".\r.\r\n.\n\r\n.\r\n", []string{"\r.", "\n"}, "")
	unstuffs(t, ".\r\r\n\n.\r\n.\r\n\n", []string{"\r", "\n."}, "\n")
	unstuffs(t, letters(1001)+"\r\n."+letters(2000)+"\r\n.\r\n"+letters(3000), []string{letters(1001), letters(2000)}, letters(3000))
	unstuffs(t, "."+letters(1000)+"\r\n.\r\n.", []string{letters(1000)}, ".")
}

// TestUnstuffedNone has bytes without a line of one dot that is ended.
func TestUnstuffedNone(t *testing.T) {
	for _, s := range []string{
		"", ".", ".\r", ".\n", ".\n\r", "\r\n", "\r\n.", "\r\n.\r", "\r\n.\n", "a", "a\r\n", "a\r\nb\r\n", "a\r\n.", "a\r\n.\r", "a\r\n.\n",
		"..\r\n", "...\r\n", "a.\r\n", ".a\r\n", " .\r\n", ". \r\n", "a\r\n..\r\nb", "\n.\r\n", "\r.\r\n", "a\n.\r\n", "a\r.\r\n", ".\r.\r\n", ".\r\r\n", ".\x00\r\n",
		letters(2000), letters(2000) + "\r\n",
	} {
		if l, rest, is := Unstuffed(s); len(l) != 0 || rest != "" || is {
			t.Errorf("%q: %q, %q, %v", s, l, rest, is)
		}
	}
}

// TestTexts holds, of all short texts of the bytes that something hangs on, what the chapter's words tell.
func TestTexts(t *testing.T) {
	for _, s := range texts(kinds, 7) {
		want, behind := modelSplit(s)
		splits(t, s, want, behind)
		l, rest, is := Unstuffed(s)
		want, behind, wantIs := modelUnstuffed(s)
		if !slices.Equal(l, want) || rest != behind || is != wantIs {
			t.Fatalf("%q: %q, %q, %v; want %q, %q, %v", s, l, rest, is, want, behind, wantIs)
		}
		x, last := Unstuff(s)
		if want := strings.TrimPrefix(s, "."); x != want || last != (s == ".") {
			t.Fatalf("%q: %q, %v", s, x, last)
		}
	}
}

// P8.3

// comes holds what a reader tells of pieces, asked behind each or behind the last one alone.
func comes(t *testing.T, most int, come []string) {
	t.Helper()
	want, left := modelTold(most, strings.Join(come, ""))
	for _, between := range []bool{false, true} {
		r := made(t, most)
		var got []told
		for _, s := range come {
			r.Add(s)
			if between {
				got = append(got, tellsAll(r)...)
			}
		}
		got = append(got, tellsAll(r)...)
		if !slices.Equal(got, want) || r.Len() != left {
			t.Fatalf("%d, %q (asked between: %v): %+v, %d left; want %+v, %d", most, come, between, got, r.Len(), want, left)
		}
	}
}

// TestPieces holds that it doesn't matter how bytes come: in one piece, in two that are cut at each place, or one by one.
func TestPieces(t *testing.T) {
	for _, s := range texts("\r\na", 7) {
		for most := 1; most <= 3; most++ {
			comes(t, most, []string{s})
			comes(t, most, pieces(s, 1))
			for i := 1; i < len(s); i++ {
				comes(t, most, []string{s[:i], s[i:]})
			}
		}
	}
}

func TestPiecesOfMuch(t *testing.T) {
	for seed := range uint64(20) {
		s := drawn(seed, "\r\n\r\nab.", 5000) + drawn(seed, "\r\nabcdefghijklmnop", 20000) + letters(MaxLine+int(seed%3)-1) + "\r\n" + drawn(seed+100, "\r\n", 500)
		for _, most := range []int{1, 5, 20, MaxLine} {
			for _, n := range []int{1, 2, 3, 7, 64, 999, 1000, 1001, len(s)} {
				comes(t, most, pieces(s, n))
			}
		}
	}
}

// comesBack holds that stuffed lines come back, whatever stands behind them, also through a reader.
func comesBack(t *testing.T, l []string, behind string) {
	t.Helper()
	s := Stuff(l)
	back, rest, is := Unstuffed(s + behind)
	if !slices.Equal(back, l) || rest != behind || !is {
		t.Fatalf("%q, and %q behind: %q, %q, %v", l, behind, back, rest, is)
	}
	r := made(t, MaxLine)
	r.Add(s + behind)
	for i := range len(l) + 1 {
		x, e, whole := r.Next()
		x, last := Unstuff(x)
		if e != api.OK || !whole || last != (i == len(l)) || !last && x != l[i] {
			t.Fatalf("%q, line %d: %q, %d, %v, %v", l, i, x, e, whole, last)
		}
	}
	if r.Len() != len(behind) {
		t.Fatalf("%q: %d left, want %d", l, r.Len(), len(behind))
	}
}

func TestStuffedComeBack(t *testing.T) {
	var lines []string
	for _, s := range texts(kinds, 4) {
		if !strings.Contains(s, "\r\n") {
			lines = append(lines, s)
		}
	}
	behinds := []string{"", ".", ".\r\n", "\n", "\r\n", "a\r\n.\r\n"}
	for i, s := range lines {
		for _, behind := range behinds {
			comesBack(t, []string{s}, behind)
			comesBack(t, []string{s, s}, behind)
		}
		comesBack(t, []string{s, lines[(7*i+3)%len(lines)], ".", lines[(31*i+5)%len(lines)]}, behinds[i%len(behinds)])
	}
	comesBack(t, nil, "")
	comesBack(t, nil, ".\r\n")
	comesBack(t, lines, ".")
	comesBack(t, []string{letters(MaxLine), "." + letters(MaxLine-2)}, letters(5))
}

// TestJoinedComeBack holds that joined lines come back, if none has an end in it.
func TestJoinedComeBack(t *testing.T) {
	for seed := range uint64(200) {
		var l []string
		for i := range seed % 7 {
			l = append(l, strings.ReplaceAll(drawn(10*seed+i, "\r\n..ab", int(seed%11)), "\r\n", "\n\r"))
		}
		rest := strings.Repeat("\r", int(seed%2)) + letters(int(seed%3))
		if slices.ContainsFunc(l, func(s string) bool { return strings.Contains(s, "\r\n") }) {
			continue
		}
		if back, behind := Split(Join(l) + rest); !slices.Equal(back, l) || behind != rest {
			t.Errorf("%q, %q: %q, %q", l, rest, back, behind)
		}
	}
}

// TestStuffKeeps holds that lists stay as they were, also one with room behind its last text, and that answers share nothing.
func TestStuffKeeps(t *testing.T) {
	all := []string{"a", ".b", ".", "behind", "more"}
	l := all[:3]
	if s := Stuff(l); s != "a\r\n..b\r\n..\r\n.\r\n" {
		t.Errorf("%q", s)
	}
	if s := Join(l); s != "a\r\n.b\r\n.\r\n" {
		t.Errorf("%q", s)
	}
	if !slices.Equal(all, []string{"a", ".b", ".", "behind", "more"}) {
		t.Errorf("%q", all)
	}
	x, _ := Split("a\r\nb\r\n")
	y, _ := Split("a\r\nb\r\n")
	x[0] = "x"
	if !slices.Equal(y, []string{"a", "b"}) {
		t.Errorf("%q", y)
	}
}

// TestAskedAgain holds that the same calls answer the same.
func TestAskedAgain(t *testing.T) {
	s := drawn(9, "\r\n\r\nab..", 2000) + "\r\n.\r\nrest"
	l, rest := Split(s)
	u, behind, is := Unstuffed(s)
	stuffed, joined := Stuff(l), Join(l)
	r := made(t, 6)
	r.Add(s)
	first := tellsAll(r)
	for range 3 {
		l2, rest2 := Split(s)
		u2, behind2, is2 := Unstuffed(s)
		if !slices.Equal(l2, l) || rest2 != rest || !slices.Equal(u2, u) || behind2 != behind || is2 != is || Stuff(l) != stuffed || Join(l) != joined {
			t.Errorf("asked again: other answers")
		}
		r := made(t, 6)
		r.Add(s)
		if !slices.Equal(tellsAll(r), first) {
			t.Errorf("asked again: a reader tells otherwise")
		}
	}
}
