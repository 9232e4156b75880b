package addr

import (
	"regexp"
	"strings"
	"testing"

	"posthorn/api"
)

// drawn tells n bytes of those in of that look like chance, others of another seed, and the same in each run.
func drawn(seed uint64, of string, n int) string {
	b := make([]byte, n)
	for i := range b {
		seed = seed*6364136223846793005 + 1442695040888963407
		b[i] = of[int(seed>>33)%len(of)]
	}
	return string(b)
}

// texts hands all texts of up to n bytes of those in of to each.
func texts(of string, n int, each func(string)) {
	b := make([]byte, 0, n)
	var more func()
	more = func() {
		each(string(b))
		if len(b) == n {
			return
		}
		for i := range len(of) {
			b = append(b, of[i])
			more()
			b = b[:len(b)-1]
		}
	}
	more()
}

// bytes256 has each byte once.
func bytes256() string {
	b := make([]byte, 256)
	for i := range b {
		b[i] = byte(i)
	}
	return string(b)
}

const (
	small  = "abcdefghijklmnopqrstuvwxyz"
	great  = "ABCDEFGHIJKLMNOPQRSTUVWXYZ"
	digits = "0123456789"
	marks  = "!#$%&'*+-/=?^_`{|}~"
	atoms  = small + great + digits + marks
	labels = small + great + digits + "-"
)

// rep tells s n times.
func rep(s string, n int) string {
	return strings.Repeat(s, n)
}

// long tells a domain of n bytes, from 1 to 255, of small letters and digits: labels as long as may be.
func long(n int) string {
	var l []string
	for n > 63 {
		size := min(63, n-2) // one dot and one byte at least stand behind
		l, n = append(l, drawn(uint64(n), small+digits, size)), n-size-1
	}
	return strings.Join(append(l, drawn(uint64(n), small+digits, n)), ".")
}

// The model is a second working-out by the chapter's words, by expressions.
var (
	modelLabel = regexp.MustCompile(`\A[a-zA-Z0-9]([a-zA-Z0-9-]{0,61}[a-zA-Z0-9])?\z`)
	modelAny   = regexp.MustCompile(`\A[ -~]{1,64}\z`)
	modelAtoms = regexp.MustCompile("\\A[a-zA-Z0-9!#$%&'*+\\-/=?^_`{|}~]+(\\.[a-zA-Z0-9!#$%&'*+\\-/=?^_`{|}~]+)*\\z")
	modelPath  = regexp.MustCompile("\\A<((?:@[a-zA-Z0-9.-]+,)*@[a-zA-Z0-9.-]+:)?(?:([a-zA-Z0-9.!#$%&'*+\\-/=?^_`{|}~]+)|\"((?:[ !#-\\[\\]-~]|\\\\[ -~])*)\")@([a-zA-Z0-9.-]+)>")
	modelAhead = regexp.MustCompile(`\\(.)`)
)

// modelDomain tells whether s is a domain.
func modelDomain(s string) bool {
	if len(s) < 1 || len(s) > 255 {
		return false
	}
	for _, l := range strings.Split(s, ".") {
		if !modelLabel.MatchString(l) {
			return false
		}
	}
	return true
}

// modelSmall tells s with each letter A to Z as its a to z.
func modelSmall(s string) string {
	b := []byte(s)
	for i, c := range b {
		if at := strings.IndexByte(great, c); at >= 0 {
			b[i] = small[at]
		}
	}
	return string(b)
}

// modelLocal tells whether s is a local part.
func modelLocal(s string) bool {
	return modelAny.MatchString(s)
}

// modelPlain tells whether s is a plain one.
func modelPlain(s string) bool {
	return modelLocal(s) && modelAtoms.MatchString(s)
}

// modelMay tells whether b may be.
func modelMay(b Box) bool {
	return modelLocal(b.Local) && modelDomain(b.Domain) && modelSmall(b.Domain) == b.Domain
}

// modelWrite tells b written.
func modelWrite(b Box) (string, api.Errno) {
	if !modelMay(b) {
		return "", api.ErrForm
	}
	if modelPlain(b.Local) {
		return b.Local + "@" + b.Domain, api.OK
	}
	return `"` + strings.NewReplacer(`"`, `\"`, `\`, `\\`).Replace(b.Local) + `"@` + b.Domain, api.OK
}

// modelRead tells the mailbox of a path with which s begins, and what follows it.
func modelRead(s string) (Box, string, api.Errno) {
	if strings.HasPrefix(s, "<>") {
		return Box{}, s[2:], api.OK
	}
	m := modelPath.FindStringSubmatch(s)
	if m == nil {
		return Box{}, "", api.ErrForm
	}
	whole, route, plain, inQuotes, domain := m[0], m[1], m[2], m[3], m[4]
	if route != "" {
		for _, d := range strings.Split(strings.TrimSuffix(route, ":"), ",") {
			if !modelDomain(d[1:]) {
				return Box{}, "", api.ErrForm
			}
		}
	}
	local := plain
	if plain == "" {
		local = modelAhead.ReplaceAllString(inQuotes, "$1")
	}
	if !modelDomain(domain) || !modelLocal(local) || plain != "" && !modelPlain(plain) {
		return Box{}, "", api.ErrForm
	}
	return Box{local, modelSmall(domain)}, s[len(whole):], api.OK
}

// tellsDomain holds what Domain tells.
func tellsDomain(t *testing.T, s, want string) {
	t.Helper()
	if d, e := Domain(s); d != want || e != api.OK {
		t.Errorf("%q: %q, %d; want %q", s, d, e, want)
	}
}

// noDomain holds that s is none.
func noDomain(t *testing.T, s string) {
	t.Helper()
	if d, e := Domain(s); d != "" || e != api.ErrForm {
		t.Errorf("%q: %q, %d; want that it is none", s, d, e)
	}
}

// local holds what Local and Plain tell.
func local(t *testing.T, s string, is, plain bool) {
	t.Helper()
	if Local(s) != is || Plain(s) != plain {
		t.Errorf("%q: %v, %v; want %v, %v", s, Local(s), Plain(s), is, plain)
	}
}

// reads holds the mailbox of a path, with whatever follows it, and alone.
func reads(t *testing.T, s string, want Box) {
	t.Helper()
	if b, e := Parse(s); b != want || e != api.OK {
		t.Errorf("%q: %+v, %d; want %+v", s, b, e, want)
	}
	for _, behind := range []string{"", " ", " x", ">", "<", "@", ":", "a", "\x00", "\xff", "\r\n", "<>", "<a@b>", s, " " + s} {
		if b, rest, e := Read(s + behind); b != want || rest != behind || e != api.OK {
			t.Errorf("%q: %+v, %q, %d; want %+v, %q", s+behind, b, rest, e, want, behind)
		}
		if b, e := Parse(s + behind); behind != "" && (b != Box{} || e != api.ErrForm) {
			t.Errorf("%q: %+v, %d; want that it isn't one alone", s+behind, b, e)
		}
	}
}

// noPath holds that s neither is a path nor begins with one.
func noPath(t *testing.T, s string) {
	t.Helper()
	if b, rest, e := Read(s); b != (Box{}) || rest != "" || e != api.ErrForm {
		t.Errorf("%q: %+v, %q, %d; want that it doesn't begin with a path", s, b, rest, e)
	}
	if b, e := Parse(s); b != (Box{}) || e != api.ErrForm {
		t.Errorf("%q: %+v, %d; want that it is no path", s, b, e)
	}
}

// asModel holds Read and Parse against the model.
func asModel(t *testing.T, s string) {
	t.Helper()
	want, behind, f := modelRead(s)
	if b, rest, e := Read(s); b != want || rest != behind || e != f {
		t.Errorf("%q: %+v, %q, %d; want %+v, %q, %d", s, b, rest, e, want, behind, f)
	}
	if behind != "" {
		want, f = Box{}, api.ErrForm
	}
	if b, e := Parse(s); b != want || e != f {
		t.Errorf("%q alone: %+v, %d; want %+v, %d", s, b, e, want, f)
	}
}

// P9.1

func TestDomain(t *testing.T) {
	for s, want := range map[string]string{
		"a":                                     "a",
		"Z":                                     "z",
		"0":                                     "0",
		"9":                                     "9",
		"a.b":                                   "a.b",
		"a.example":                             "a.example",
		"Example.ORG":                           "example.org",
		"EXAMPLE":                               "example",
		"b-1.c":                                 "b-1.c",
		"B-1.C":                                 "b-1.c",
		"a-b":                                   "a-b",
		"a--b":                                  "a--b",
		"1-2":                                   "1-2",
		"xn--a-b.c-d":                           "xn--a-b.c-d",
		"1.2.3.4":                               "1.2.3.4",
		"a.b.c.d.e.F":                           "a.b.c.d.e.f",
		small:                                   small,
		great:                                   small,
		digits:                                  digits,
		great + digits:                          small + digits,
		rep("a", 62):                            rep("a", 62),
		rep("a", 63):                            rep("a", 63),
		rep("Q", 63):                            rep("q", 63),
		"a" + rep("-", 61) + "b":                "a" + rep("-", 61) + "b",
		rep("a", 63) + "." + rep("b", 63):       rep("a", 63) + "." + rep("b", 63),
		rep("a.", 127) + "a":                    rep("a.", 127) + "a",
		rep("A.", 126) + "bc":                   rep("a.", 126) + "bc",
		rep(rep("a", 63)+".", 3) + rep("Z", 63): rep(rep("a", 63)+".", 3) + rep("z", 63),
		rep(rep("a", 63)+".", 3) + rep("b", 61) + "." + "c": rep(rep("a", 63)+".", 3) + rep("b", 61) + "." + "c",
	} {
		tellsDomain(t, s, want)
		tellsDomain(t, want, want)
	}
}

func TestDomainWrong(t *testing.T) {
	for _, s := range []string{
		"", ".", "..", "a.", ".a", "a..b", "a.b.", ".a.b", "a...b",
		"-", "--", "-a", "a-", "-a-", "a.-b", "a-.b", "a.b-", "-a.b", "a.-", "-.a", "a.-.b",
		" ", "a b", " a", "a ", "a_b", "_a", "a,b", "a:b", "a@b", "@a", "<a>", "a>", "[1.2.3.4]", "a\x00", "a\n", "a\r\n", "\"a\"", "a\\",
		"\xe9", "é", "aé", "\u212a", "a.\u212a", "ſ", "İ", "a\xc3", "\x80", "a\xff", "！",
		rep("a", 64), "b." + rep("a", 64), rep("a", 64) + ".b", "b." + rep("a", 64) + ".c", rep("a", 65), rep("a", 100), rep("a", 255),
		"a" + rep("-", 62) + "b", "-" + rep("a", 62), rep("a", 62) + "-", "-" + rep("a", 61), rep("a", 61) + "-",
		rep("a.", 128), rep("a.", 127) + "ab", rep("a.", 128) + "a", rep("a.", 1000) + "a", rep("A", 1<<16), rep(".", 255), rep("a.", 127), rep(rep("a", 63)+".", 4),
	} {
		noDomain(t, s)
	}
}

func TestDomainSizes(t *testing.T) {
	for n := 1; n <= 255; n++ {
		s := long(n)
		if len(s) != n {
			t.Fatalf("%d bytes, want %d", len(s), n)
		}
		tellsDomain(t, s, s)
		tellsDomain(t, strings.ToUpper(s), s)
		noDomain(t, s+".")
		noDomain(t, "."+s)
		noDomain(t, s+"-")
		noDomain(t, "-"+s)
	}
	for _, l := range []int{1, 2, 3, 7, 15, 31, 62, 63} {
		// Labels of l bytes each, and what is left.
		s := rep(rep("x", l)+".", 300)
		for n := 1; n <= 300; n++ {
			if d := s[:n]; n <= 255 && d[n-1] != '.' {
				tellsDomain(t, d, d)
			} else {
				noDomain(t, d)
			}
		}
	}
	for n := range 300 {
		if s := rep("y", n); 1 <= n && n <= 63 {
			tellsDomain(t, s, s)
			tellsDomain(t, "a."+s, "a."+s)
			tellsDomain(t, s+".a", s+".a")
		} else {
			noDomain(t, s)
			noDomain(t, "a."+s)
			noDomain(t, s+".a")
		}
	}
}

// TestDomainBytes has each byte alone, at a label's begin, at its end, and inside.
func TestDomainBytes(t *testing.T) {
	of := bytes256()
	for i := range len(of) {
		c := of[i : i+1]
		letter := strings.Contains(small+great+digits, c)
		low := c
		if at := strings.Index(great, c); at >= 0 {
			low = small[at : at+1]
		}
		for form, is := range map[string]bool{
			"?": letter, "?b": letter, "b?": letter, "a.?b": letter, "a.b?": letter, "?b.a": letter, "b?.a": letter, "?.a": letter, "a.?": letter, "a.?.b": letter,
			"a?b": letter || c == "-" || c == ".", "a.a?b.c": letter || c == "-" || c == ".",
		} {
			s, want := strings.ReplaceAll(form, "?", c), strings.ReplaceAll(form, "?", low)
			if is {
				tellsDomain(t, s, want)
			} else {
				noDomain(t, s)
			}
		}
	}
}

func TestDomainAll(t *testing.T) {
	texts("aZ0-._", 6, func(s string) {
		if modelDomain(s) {
			tellsDomain(t, s, modelSmall(s))
		} else {
			noDomain(t, s)
		}
	})
	for seed := range uint64(3000) {
		s := drawn(seed, labels+rep(".", int(seed%4)*3), 1+int(seed%260))
		if modelDomain(s) {
			tellsDomain(t, s, modelSmall(s))
		} else {
			noDomain(t, s)
		}
	}
}

func TestLocal(t *testing.T) {
	for _, s := range []string{
		"a", "Z", "0", "a.b", "Ann.B+x", "a-b", "-", "--a-", "~", "!", "a.b.c.d", "-.-", marks, small, great, digits, "postmaster", "user+tag", "1.2",
		rep("a", 63), rep("a", 64), "a." + rep("b", 62), rep("b", 62) + ".a", rep("a.", 31) + "a", rep("a.", 31) + "ab", rep("~", 64),
	} {
		local(t, s, true, true)
	}
	for _, s := range []string{
		".", "..", ".a", "a.", "a..b", ".a.", "a.b.", ".a.b", "a...b", "...", "a. b", "a .b",
		" ", "  ", "a b", " a", "a ", "x y", "\"", "\\", "\"a\"", "a\\b", "a\"", "@", "a@", "@a", "a@b", "<", ">", "<a@b>", "a<", "a>", "(", ")", "a(b)", ",", "a,b", ":", "a:b", ";", "[", "]",
		rep(" ", 64), rep(".", 64), rep("\"", 64), rep("\\", 64), "." + rep("b", 63), rep("b", 63) + ".", rep("a.", 32), rep("b", 31) + ".." + rep("b", 31),
	} {
		local(t, s, true, false)
	}
	for _, s := range []string{
		"", rep("a", 65), rep("a", 66), rep("a", 128), rep("a", 1<<16), rep(" ", 65), rep(".", 65), rep("a.", 32) + "a", "a." + rep("b", 63), rep("b", 63) + ".a",
		"\x1f", "\x7f", "a\x1f", "\x1fa", "a\x7fb", "\x00", "a\x00", "\t", "a\tb", "\n", "a\r\n", "\x80", "\xff", "é", "aé", "a.é", "\xc3", "a.\x7f", "\x1f.a", rep("a", 63) + "\x7f", "\x1f" + rep("a", 63),
	} {
		local(t, s, false, false)
	}
}

func TestLocalBytes(t *testing.T) {
	of := bytes256()
	for i := range len(of) {
		c := of[i : i+1]
		is, atom := 32 <= i && i <= 126, strings.Contains(atoms, c)
		for _, form := range []string{"?", "??", "?a", "a?", "a.?", "?.a", "a.?.b", "?.?"} {
			local(t, strings.ReplaceAll(form, "?", c), is, atom)
		}
		for _, form := range []string{"a?b", "a.a?b.c"} {
			local(t, strings.ReplaceAll(form, "?", c), is, atom || c == ".")
		}
		for _, form := range []string{".?", "?.", "a..?", "?..a", "? ", "a.? "} {
			local(t, strings.ReplaceAll(form, "?", c), is, false)
		}
		for n := range 70 {
			local(t, rep(c, n), is && 1 <= n && n <= 64, atom && 1 <= n && n <= 64)
		}
	}
}

func TestLocalAll(t *testing.T) {
	texts("a.~ \"\\\x7f", 5, func(s string) {
		local(t, s, modelLocal(s), modelPlain(s))
	})
	for seed := range uint64(3000) {
		s := drawn(seed, atoms+rep(".", int(seed%4)*3), 1+int(seed%70))
		local(t, s, modelLocal(s), modelPlain(s))
	}
}

func TestMay(t *testing.T) {
	for _, b := range []Box{
		{"a", "b"}, {"a.b", "c"}, {"Ann.B+x", "example.org"}, {"x y", "example.org"}, {".", "b-1.c"}, {"A", "a"}, {"\"", "a"}, {"\\", "a"}, {" ", "0"}, {"@", "a"}, {"<", "a"}, {">", "a"}, {"a@b", "c"}, {"a..b", "c"},
		{rep("a", 64), "a"}, {rep(" ", 64), "a"}, {"a", rep("a", 63)}, {rep("a", 64), long(255)}, {"a", "a-b"},
	} {
		if !May(b) {
			t.Errorf("%+v may not be", b)
		}
	}
	for _, b := range []Box{
		{}, {"a", ""}, {"", "a"}, {"", "A"}, {"a", "A"}, {"a", "example.oRg"}, {"a", "Example.org"}, {"a", "a.Z"}, {"a", "a-Z"},
		{"a", "."}, {"a", "a."}, {"a", ".a"}, {"a", "a..b"}, {"a", "-"}, {"a", "-a"}, {"a", "a-"}, {"a", "a_b"}, {"a", "a b"}, {"a", "a@b"}, {"a", rep("a", 64)}, {"a", long(255) + "a"}, {"a", "b>"}, {"a", "b\n"},
		{rep("a", 65), "a"}, {rep(" ", 65), "a"}, {"\x1f", "a"}, {"\x7f", "a"}, {"a\n", "a"}, {"é", "a"}, {"a", "é"}, {"a", "\u212a"}, {"\x00", "\x00"},
	} {
		if May(b) {
			t.Errorf("%+v may be", b)
		}
	}
}

// P9.2

func TestWrite(t *testing.T) {
	for b, want := range map[Box]string{
		{"a", "b"}:                       `a@b`,
		{"a.b", "c"}:                     `a.b@c`,
		{"Ann.B+x", "example.org"}:       `Ann.B+x@example.org`,
		{"a.b.c", "d.e.f"}:               `a.b.c@d.e.f`,
		{marks, "b-1.c"}:                 marks + `@b-1.c`,
		{"-", "0"}:                       `-@0`,
		{"x y", "example.org"}:           `"x y"@example.org`,
		{"a b", "c"}:                     `"a b"@c`,
		{" ", "c"}:                       `" "@c`,
		{"a\"\\", "c"}:                   `"a\"\\"@c`,
		{`"`, "c"}:                       `"\""@c`,
		{`\`, "c"}:                       `"\\"@c`,
		{`""`, "c"}:                      `"\"\""@c`,
		{`\\`, "c"}:                      `"\\\\"@c`,
		{`\"`, "c"}:                      `"\\\""@c`,
		{`"a"`, "c"}:                     `"\"a\""@c`,
		{`a\b`, "c"}:                     `"a\\b"@c`,
		{".", "c"}:                       `"."@c`,
		{"..", "c"}:                      `".."@c`,
		{".a", "c"}:                      `".a"@c`,
		{"a.", "c"}:                      `"a."@c`,
		{"a..b", "c"}:                    `"a..b"@c`,
		{"a@b", "c"}:                     `"a@b"@c`,
		{"@", "c"}:                       `"@"@c`,
		{"<", "c"}:                       `"<"@c`,
		{">", "c"}:                       `">"@c`,
		{"<a@b>", "c"}:                   `"<a@b>"@c`,
		{"@a:b", "c"}:                    `"@a:b"@c`,
		{"a,b", "c"}:                     `"a,b"@c`,
		{"(a)", "c"}:                     `"(a)"@c`,
		{"[a]", "c"}:                     `"[a]"@c`,
		{"a;b", "c"}:                     `"a;b"@c`,
		{rep("a", 64), "c"}:              rep("a", 64) + `@c`,
		{rep(" ", 64), "c"}:              `"` + rep(" ", 64) + `"@c`,
		{rep(`"`, 64), "c"}:              `"` + rep(`\"`, 64) + `"@c`,
		{rep(`\`, 64), "c"}:              `"` + rep(`\\`, 64) + `"@c`,
		{rep("a", 64), long(255)}:        rep("a", 64) + "@" + long(255),
		{rep(`"`, 64), long(255)}:        `"` + rep(`\"`, 64) + `"@` + long(255),
		{"a." + rep("b", 62), "c"}:       "a." + rep("b", 62) + "@c",
		{rep("b", 63) + ".", "c"}:        `"` + rep("b", 63) + `."@c`,
		{"A", rep("a", 63) + ".b"}:       "A@" + rep("a", 63) + ".b",
		{"\"a\\b\"", "a.example"}:        `"\"a\\b\""@a.example`,
		{"no plain one", "1.2.3.4"}:      `"no plain one"@1.2.3.4`,
		{"tab is none, ~ is", "c-d.e-f"}: `"tab is none, ~ is"@c-d.e-f`,
	} {
		if s, e := Write(b); s != want || e != api.OK {
			t.Errorf("%+v: %q, %d; want %q", b, s, e, want)
		}
		if s, e := Path(b); s != "<"+want+">" || e != api.OK {
			t.Errorf("%+v: %q, %d; want %q in < and >", b, s, e, want)
		}
	}
	if s, e := Path(Box{}); s != "<>" || e != api.OK {
		t.Errorf("none: %q, %d", s, e)
	}
	if s, e := Write(Box{}); s != "" || e != api.ErrForm {
		t.Errorf("none, written: %q, %d", s, e)
	}
}

func TestWriteWrong(t *testing.T) {
	for _, b := range []Box{
		{"a", ""}, {"", "a"}, {"", "A"}, {"a", "A"}, {"a", "a.B"}, {"a b", "C"}, {"a", "b."}, {"a", ".b"}, {"a", "b..c"}, {"a", "-b"}, {"a", "b-"}, {"a", "b_c"}, {"a", "b c"}, {"a", "b@c"}, {"a", "b>"}, {"a", "é"},
		{"a\n", "c"}, {"\x1f", "c"}, {"\x7f", "c"}, {"\x80", "c"}, {"é", "c"}, {"a\x00b", "c"}, {rep("a", 65), "c"}, {rep(" ", 65), "c"}, {"a", rep("a", 64)}, {"a", long(255) + "a"}, {"a", rep("a.", 128)}, {"\x7f", ""}, {"", "."}, {" ", ""}, {"", " "},
	} {
		if s, e := Write(b); s != "" || e != api.ErrForm {
			t.Errorf("%+v: %q, %d", b, s, e)
		}
		if s, e := Path(b); s != "" || e != api.ErrForm {
			t.Errorf("%+v as a path: %q, %d", b, s, e)
		}
	}
}

// TestWriteAll holds Write, Path and May against the model, of all short parts, and of drawn ones.
func TestWriteAll(t *testing.T) {
	hold := func(b Box) {
		want, f := modelWrite(b)
		if May(b) != (f == api.OK) {
			t.Errorf("%+v: may be: %v", b, May(b))
		}
		if s, e := Write(b); s != want || e != f {
			t.Errorf("%+v: %q, %d; want %q, %d", b, s, e, want, f)
		}
		if f == api.OK {
			want = "<" + want + ">"
		} else if b == (Box{}) {
			want, f = "<>", api.OK
		}
		if s, e := Path(b); s != want || e != f {
			t.Errorf("%+v as a path: %q, %d; want %q, %d", b, s, e, want, f)
		}
	}
	texts("a. \"\\@>\x1f", 3, func(l string) {
		texts("aZ.-", 3, func(d string) {
			hold(Box{l, d})
		})
	})
	of := bytes256()
	for i := range len(of) {
		for j := range len(of) {
			hold(Box{of[i:i+1] + of[j:j+1], "c"})
			hold(Box{"c", of[i:i+1] + of[j:j+1]})
		}
	}
}

// P9.3

// TestReadExamples has the chapter's examples.
func TestReadExamples(t *testing.T) {
	reads(t, `<@a.b,@c:"x y"@Example.ORG>`, Box{"x y", "example.org"})
	noPath(t, "<a..b@c>")
}

func TestRead(t *testing.T) {
	for s, want := range map[string]Box{
		"<>":                               {},
		"<a@b>":                            {"a", "b"},
		"<a.b@c>":                          {"a.b", "c"},
		"<Ann.B+x@Example.ORG>":            {"Ann.B+x", "example.org"},
		"<A@EXAMPLE.ORG>":                  {"A", "example.org"},
		"<a@B-1.c>":                        {"a", "b-1.c"},
		"<-@0>":                            {"-", "0"},
		"<" + marks + "@c>":                {marks, "c"},
		`<"a"@b>`:                          {"a", "b"},
		`<"a.b"@b>`:                        {"a.b", "b"},
		`<"Ann.B+x"@b>`:                    {"Ann.B+x", "b"},
		`<"x y"@d>`:                        {"x y", "d"},
		`<" "@d>`:                          {" ", "d"},
		`<"."@b-1.c>`:                      {".", "b-1.c"},
		`<".a"@b>`:                         {".a", "b"},
		`<"a."@b>`:                         {"a.", "b"},
		`<"a..b"@b>`:                       {"a..b", "b"},
		`<".."@b>`:                         {"..", "b"},
		`<"@"@b>`:                          {"@", "b"},
		`<"<"@b>`:                          {"<", "b"},
		`<">"@b>`:                          {">", "b"},
		`<"a@b>"@c>`:                       {"a@b>", "c"},
		`<"<a@b>"@c>`:                      {"<a@b>", "c"},
		`<"@a:b"@c>`:                       {"@a:b", "c"},
		`<"\""@b>`:                         {`"`, "b"},
		`<"\\"@b>`:                         {`\`, "b"},
		`<"\\\""@b>`:                       {`\"`, "b"},
		`<"\"\\"@b>`:                       {`"\`, "b"},
		`<"\\\\"@b>`:                       {`\\`, "b"},
		`<"a\b\"\\"@c>`:                    {`ab"\`, "c"},
		`<"\a"@b>`:                         {"a", "b"},
		`<"\a\.\b"@c>`:                     {"a.b", "c"},
		`<"\ "@b>`:                         {" ", "b"},
		`<"\~"@b>`:                         {"~", "b"},
		`<"\@\>\<"@b>`:                     {"@><", "b"},
		`<"` + rep("a", 64) + `"@b>`:       {rep("a", 64), "b"},
		`<"` + rep(`\a`, 64) + `"@b>`:      {rep("a", 64), "b"},
		`<"` + rep(`\"`, 64) + `"@b>`:      {rep(`"`, 64), "b"},
		`<"` + rep(`\\`, 64) + `"@b>`:      {rep(`\`, 64), "b"},
		"<" + rep("a", 64) + "@b>":         {rep("a", 64), "b"},
		"<a@" + rep("b", 63) + ">":         {"a", rep("b", 63)},
		"<a@" + long(255) + ">":            {"a", long(255)},
		"<@x:a@b>":                         {"a", "b"},
		"<@x,@y:a@b>":                      {"a", "b"},
		"<@x,@y,@z,@x:a@b>":                {"a", "b"},
		"<@X.Y-1,@Z:a@B>":                  {"a", "b"},
		`<@x:"a b"@B>`:                     {"a b", "b"},
		`<@x:"@y:"@B>`:                     {"@y:", "b"},
		"<@" + long(255) + ":a@b>":         {"a", "b"},
		"<" + rep("@x,", 5000) + "@x:a@b>": {"a", "b"},
		"<@" + long(255) + ",@" + rep("c", 63) + `:"` + rep(`\\`, 64) + `"@` + strings.ToUpper(long(255)) + ">": {rep(`\`, 64), long(255)},
	} {
		reads(t, s, want)
		asModel(t, s)
	}
}

func TestReadWrong(t *testing.T) {
	for _, s := range []string{
		// What doesn't begin with <, or has no >.
		"", "<", ">", "a", "@", "a@b", "a@b>", " <a@b>", "\x00<a@b>", "x<>", " <>", "><", "\"<a@b>\"", "<<a@b>", "<<>", "<a@b", "<a", "<a@", "<\"", "<\"a", "<\"a\"", "<\"a\"@", "<\"a\"@b", "<@", "<@a", "<@a:", "<@a:a", "<@a:a@", "<@a:a@b", "< >", "< a@b>", "<a@b >", "<a @b>", "<a@ b>", "<a@b]", "<a@b<", "<a@b\x00>", "<a@b\r\n>", "<\r\n",
		// Of the @, and parts without bytes.
		"<a>", "<a.b>", "<\"a\">", "<\"a@b\">", "<@b>", "<a@>", "<@>", "<@@>", "<a@b@c>", "<a@@b>", "<a@b@>", "<a@\"b\"@c>", "<\"a\"@b@c>", "<\"\"@b>", "<\"\">", "<\"\"@>", "<\"a\"@>", "<@a:\"\"@b>", "<@a:@b>", "<@a:>",
		// Dots.
		"<.@b>", "<..@b>", "<.a@b>", "<a.@b>", "<a..b@c>", "<.a.@b>", "<a.b.@c>", "<.a.b@c>", "<@x:.a@b>", "<a.\"b\"@c>", "<\"a\".b@c>", "<\"a\".\"b\"@c>", "<a\"b\"@c>", "<\"a\"b@c>", "<\"a\"\"b\"@c>", "<\"a\" @c>",
		// Bytes that no atom has, plain.
		"<a b@c>", "<a\\b@c>", "<\\a@c>", "<a,b@c>", "<a:b@c>", "<a;b@c>", "<(a)@c>", "<[a]@c>", "<a<@c>", "<a>@c>", "<\xe9@b>", "<é@b>", "<a\x1f@b>", "<a\x7f@b>", "<a\x00@b>", "<a\t@b>", "<\"\xe9\"@b>",
		// Quotes that don't end, a \ as the last byte, and bytes that may not be in quotes.
		"<\"a@b>", "<\"a\"b@c>", "<a\"@b>", "<\"a\\", "<\"\\", "<\"\\\"", "<\"a\\\"@b>", "<\"a\\\"@b>\\", "<\"\\\\\\\"@b>", "<\"a\x7f\"@c>", "<\"a\x1f\"@c>", "<\"\x00\"@c>", "<\"a\tb\"@c>", "<\"a\r\nb\"@c>", "<\"a\x80\"@c>", "<\"\xff\"@c>", "<\"é\"@c>", "<\"\\\x7f\"@c>", "<\"\\\x1f\"@c>", "<\"\\\x00\"@c>", "<\"\\\n\"@c>", "<\"\\\xe9\"@c>",
		// Too long.
		"<" + rep("a", 65) + "@b>", "<\"" + rep("a", 65) + "\"@b>", "<\"" + rep("\\a", 65) + "\"@b>", "<\"" + rep(" ", 65) + "\"@b>", "<\"" + rep("a", 64) + "\\a\"@b>", "<\"" + rep("a", 64) + "\\\"@b>", "<\"" + rep("a", 1<<16) + "\"@b>", "<" + rep("a", 1<<16) + "@b>", "<\"" + rep("a", 1<<20), "<\"" + rep("\\", 1<<20), "<" + rep("a", 1<<20), "<a@" + rep("b", 1<<20), "<a@" + rep("b", 64) + ">", "<a@" + long(255) + "a>", "<a@" + rep("b.", 127) + "bc>", "<@" + rep("b", 64) + ":a@b>", "<@" + rep("b.", 127) + "bc:a@b>", "<" + rep("@a,", 1<<16),
		// A domain that is none, in the mailbox and in the route.
		"<a@.>", "<a@.b>", "<a@b.>", "<a@b..c>", "<a@->", "<a@-b>", "<a@b->", "<a@b.-c>", "<a@b-.c>", "<a@b_c>", "<a@b c>", "<a@[1.2.3.4]>", "<a@\"b\">", "<a@é>", "<a@\u212a>", "<a@b,c>", "<a@b:c>",
		"<@.:a@b>", "<@.c:a@b>", "<@c.:a@b>", "<@c..d:a@b>", "<@-c:a@b>", "<@c-:a@b>", "<@c_d:a@b>", "<@c d:a@b>", "<@é:a@b>", "<@\"c\":a@b>", "<@c,@.:a@b>", "<@c,@d-:a@b>", "<@-c,@d:a@b>", "<@c:d:a@b>", "<@c:a@-b>", "<@a:b>",
		// A route without its :, with , alone, or with @ alone.
		"<@a@b>", "<@a a@b>", "<@a,@b>", "<@a,@b@c>", "<@a,b:c@d>", "<@a,:c@d>", "<@a,,@b:c@d>", "<,@a:c@d>", "<,:c@d>", "<:c@d>", "<@:c@d>", "<@,@a:c@d>", "<@a,@:c@d>", "<@a,@,@b:c@d>", "<@@a:c@d>", "<@a:,c@d>", "<@a::c@d>", "<@a:@b:c@d>", "<@a, @b:c@d>", "<@a,@b :c@d>", "<@a: c@d>", "<@a:@c@d>", "<@a;c@d>", "<a:c@d>", "<@a:c>", "<@a,@b:>", "<@a:<c@d>>", "<@a:<>>", "<@a:\"c>",
	} {
		noPath(t, s)
		asModel(t, s)
	}
}

// TestReadFollows has what follows a path, and paths one behind the other.
func TestReadFollows(t *testing.T) {
	for _, s := range []string{"", ">", " ", "x", "<a@b>", "<>", "<", " SIZE=1", "@c>", "\x00\xff", rep("z", 1<<16)} {
		for path, want := range map[string]Box{"<>": {}, "<a@B>": {"a", "b"}, `<@c:"a b"@d>`: {"a b", "d"}} {
			if b, rest, e := Read(path + s); b != want || rest != s || e != api.OK {
				t.Errorf("%q and %q: %+v, %q, %d", path, s, b, rest, e)
			}
			if b, e := Parse(path + s); (e == api.OK) != (s == "") || (e == api.OK) != (b == want && e == api.OK) || e != api.OK && (b != Box{} || e != api.ErrForm) {
				t.Errorf("%q and %q alone: %+v, %d", path, s, b, e)
			}
		}
	}
	s := `<a@b><><"c d"@E><@f:g@h>x`
	for _, want := range []Box{{"a", "b"}, {}, {"c d", "e"}, {"g", "h"}} {
		b, rest, e := Read(s)
		if b != want || e != api.OK {
			t.Errorf("%q: %+v, %d; want %+v", s, b, e, want)
		}
		s = rest
	}
	if s != "x" {
		t.Errorf("%q is left", s)
	}
	noPath(t, s)
}

// TestReadBytes has each byte at each place of paths, in place of what stands there, and between.
func TestReadBytes(t *testing.T) {
	of := bytes256()
	for _, s := range []string{"<>", "<a@b>", "<a.b@c.d-e>", `<"a b"@c>`, `<"a\b\"\\"@c>`, "<@a:b@c>", "<@a.b,@c:d@e>", `<@a,@b-c:".\>"@D>`, "<" + rep("a", 64) + "@b>", `<"` + rep("a", 63) + `\a"@b>`, "<a@" + rep("b", 63) + ">"} {
		for at := range len(s) {
			asModel(t, s[:at])
			asModel(t, s[:at]+s[at+1:])
			for i := range len(of) {
				asModel(t, s[:at]+of[i:i+1]+s[at+1:])
				asModel(t, s[:at]+of[i:i+1]+s[at:])
			}
		}
		asModel(t, s)
	}
}

// TestReadAll has all short texts, of the bytes that something hangs on.
func TestReadAll(t *testing.T) {
	texts("<>@:,.\"\\a-", 4, func(s string) { asModel(t, s) })
	texts(">@.\"\\a", 6, func(s string) { asModel(t, "<"+s) })
	texts("@:,a", 6, func(s string) { asModel(t, "<"+s+"b@c>") })
	texts("a.\"\\ >", 5, func(s string) { asModel(t, `<"`+s+`"@c>`) })
	texts("a.-Z>", 5, func(s string) { asModel(t, "<a@"+s+">") })
}

// path draws a path as it may be written, and its mailbox.
func path(seed uint64) (string, Box) {
	domain := func(seed uint64) string {
		return drawn(seed, great+small+digits, 1+int(seed%20)) + []string{"", ".x", "-y", ".B.C"}[seed%4]
	}
	var s strings.Builder
	s.WriteString("<")
	for i := range seed % 3 {
		s.WriteString([]string{"@", ",@"}[min(i, 1)] + domain(seed*3+i))
	}
	if seed%3 > 0 {
		s.WriteString(":")
	}
	var l string
	if seed%2 == 0 {
		l = drawn(seed, atoms, 1+int(seed%64))
		s.WriteString(l)
	} else {
		l = drawn(seed, bytes256()[32:127], 1+int(seed%64))
		s.WriteString(`"`)
		for i := range len(l) {
			if c := l[i : i+1]; strings.Contains(`"\`, c) || (seed>>3+uint64(i))%5 == 0 {
				s.WriteString(`\`)
			}
			s.WriteString(l[i : i+1])
		}
		s.WriteString(`"`)
	}
	d := domain(seed)
	s.WriteString("@" + d + ">")
	return s.String(), Box{l, modelSmall(d)}
}

func TestReadDrawn(t *testing.T) {
	of := bytes256()[32:127]
	for seed := range uint64(4000) {
		s, want := path(seed)
		if b, rest, e := Read(s + " x"); b != want || rest != " x" || e != api.OK {
			t.Errorf("%q: %+v, %q, %d; want %+v", s, b, rest, e, want)
		}
		asModel(t, s)
		// One byte is another, there are two of one, one is away.
		for k := range uint64(8) {
			at := int((seed*31 + k*17) % uint64(len(s)))
			asModel(t, s[:at]+drawn(seed+k, of, 1)+s[at+1:])
			asModel(t, s[:at]+s[at:at+1]+s[at:])
			asModel(t, s[:at]+s[at+1:])
		}
	}
}

// P9.4

// TestThereAndBack holds that a mailbox's path is read as it, and is one alone, and that a path that was read is written so that it is read as the same.
func TestThereAndBack(t *testing.T) {
	back := func(b Box) {
		t.Helper()
		s, e := Path(b)
		if e != api.OK {
			t.Errorf("%+v: %d", b, e)
			return
		}
		if got, e := Parse(s); got != b || e != api.OK {
			t.Errorf("%+v: %q is read as %+v, %d", b, s, got, e)
		}
		if got, rest, e := Read(s + s); got != b || rest != s || e != api.OK {
			t.Errorf("%+v: %q twice is read as %+v, %q, %d", b, s, got, rest, e)
		}
	}
	back(Box{})
	texts("a. \"\\@<>", 4, func(l string) {
		if l != "" {
			back(Box{l, "c"})
		}
	})
	for c := 32; c <= 126; c++ {
		for n := 1; n <= 64; n++ {
			back(Box{rep(string(rune(c)), n), long(4*n - 1)})
		}
	}
	for n := 1; n <= 255; n++ {
		back(Box{drawn(uint64(n), bytes256()[32:127], 1+n%64), long(n)})
	}
	for seed := range uint64(2000) {
		s, want := path(seed)
		b, e := Parse(s)
		if b != want || e != api.OK || !May(b) {
			t.Errorf("%q: %+v, %d; want %+v", s, b, e, want)
		}
		back(b)
	}
}

// R4, R5

// TestAskedAgain holds that nothing is kept from call to call, of refused ones neither.
func TestAskedAgain(t *testing.T) {
	for range 3 {
		reads(t, "<a@B>", Box{"a", "b"})
		noPath(t, "<a@b")
		reads(t, `<@x:"\""@c>`, Box{`"`, "c"})
		noPath(t, `<"\`)
		reads(t, "<>", Box{})
		tellsDomain(t, "A.b", "a.b")
		noDomain(t, "A.b.")
		local(t, "a.b", true, true)
		local(t, "a b", true, false)
		if s, e := Write(Box{"a b", "c"}); s != `"a b"@c` || e != api.OK {
			t.Errorf("%q, %d", s, e)
		}
		if s, e := Path(Box{"a", "C"}); s != "" || e != api.ErrForm {
			t.Errorf("%q, %d", s, e)
		}
	}
}
