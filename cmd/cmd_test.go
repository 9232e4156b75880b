package cmd

import (
	"math"
	"regexp"
	"slices"
	"strconv"
	"strings"
	"testing"

	"posthorn/addr"
	"posthorn/api"
)

// drawn tells n bytes of those in of that look like chance, others of another seed, and the same in each run.
func drawn(seed uint64, of string, n int) string {
	b := make([]byte, n)
	for i := range b {
		seed = seed*6364136223846793005 + 1442695040888963407
		b[i] = of[int(seed>>33)%len(of)]
	}
	return string(b)
}

// texts hands all texts of up to n of the parts to each.
func texts(parts []string, n int, each func(string)) {
	var more func(string, int)
	more = func(s string, left int) {
		each(s)
		if left == 0 {
			return
		}
		for _, p := range parts {
			more(s+p, left-1)
		}
	}
	more("", n)
}

// bytes256 has each byte once.
func bytes256() string {
	b := make([]byte, 256)
	for i := range b {
		b[i] = byte(i)
	}
	return string(b)
}

// rep tells s n times.
func rep(s string, n int) string {
	return strings.Repeat(s, n)
}

// inLetters tells s in other letters, by the bits of the seed: the i-th byte turned round, where it is a letter.
func inLetters(s string, seed int) string {
	b := []byte(s)
	for i, c := range b {
		if seed>>(i%30)&1 == 0 {
			continue
		}
		switch {
		case 'a' <= c && c <= 'z':
			b[i] = c - 32
		case 'A' <= c && c <= 'Z':
			b[i] = c + 32
		}
	}
	return string(b)
}

var (
	none = addr.Box{}
	ann  = addr.Box{Local: "ann", Domain: "a.example"}
	xy   = addr.Box{Local: "x y", Domain: "b"}
	odd  = addr.Box{Local: `> SIZE=1 "\`, Domain: "b-1.c"} // has in it what stands behind a path
	full = addr.Box{Local: rep(`"`, 64), Domain: rep("a.", 127) + "b"}
)

// words has each verb's, in order.
var words = []string{"HELO", "EHLO", "MAIL", "RCPT", "DATA", "RSET", "NOOP", "QUIT", "VRFY"}

// The model is a second working-out by the chapter's words, by expressions of a line in small letters.
var (
	modelVerb    = regexp.MustCompile(`\A(helo|ehlo|mail|rcpt|data|rset|noop|quit|vrfy)(?: |\z)`)
	modelHost    = regexp.MustCompile(`\A[a-z]{4} +([^ ]+) *\z`)
	modelMail    = regexp.MustCompile(`(?s)\Amail +from: *(<.*>)((?: +(?:size=[0-9]{1,12}|body=8bitmime|body=7bit))*) *\z`)
	modelRcpt    = regexp.MustCompile(`(?s)\Arcpt +to: *(<.*>) *\z`)
	modelNothing = regexp.MustCompile(`\A[a-z]{4} *\z`)
	modelText    = regexp.MustCompile(`\A[a-z]{4} +([!-~](?:[ -~]*[!-~])?) *\z`)
	modelSize    = regexp.MustCompile(`size=([0-9]+)`)
	modelBody    = regexp.MustCompile(`body=([78])`)
	modelLine    = regexp.MustCompile(`\A([2-5][0-9][0-9])([ -])([ -~]*)\z`)
)

// modelSmall tells s with each letter A to Z as its a to z.
func modelSmall(s string) string {
	b := []byte(s)
	for i, c := range b {
		if 'A' <= c && c <= 'Z' {
			b[i] = c + 32
		}
	}
	return string(b)
}

// modelParse tells the command of a line.
func modelParse(s string) (Cmd, api.Errno) {
	low := modelSmall(s)
	m := modelVerb.FindStringSubmatch(low)
	if m == nil {
		return Cmd{}, api.ErrArg
	}
	c, may := Cmd{Verb: 1 + slices.Index(words, strings.ToUpper(m[1])), Size: -1}, false
	switch m[1] {
	case "helo", "ehlo":
		if m := modelHost.FindStringSubmatch(low); m != nil {
			_, e := addr.Domain(m[1])
			c.Text, may = m[1], e == api.OK
		}
	case "mail":
		may = modelOptions(s, low, &c)
	case "rcpt":
		if m := modelRcpt.FindStringSubmatchIndex(low); m != nil {
			b, e := addr.Parse(s[m[2]:m[3]])
			c.Box, may = b, e == api.OK && b != none
		}
	case "data", "rset", "quit":
		may = modelNothing.MatchString(low)
	case "noop", "vrfy":
		may = m[1] == "noop" && modelNothing.MatchString(low)
		if m := modelText.FindStringSubmatchIndex(low); m != nil {
			c.Text, may = s[m[2]:m[3]], true
		}
	}
	if !may {
		return Cmd{}, api.ErrForm
	}
	return c, api.OK
}

// modelOptions tells what a Mail says, into c.
func modelOptions(s, low string, c *Cmd) bool {
	m := modelMail.FindStringSubmatchIndex(low)
	if m == nil {
		return false
	}
	b, e := addr.Parse(s[m[2]:m[3]])
	sizes, bodies := modelSize.FindAllStringSubmatch(low[m[4]:m[5]], -1), modelBody.FindAllStringSubmatch(low[m[4]:m[5]], -1)
	if e != api.OK || len(sizes) > 1 || len(bodies) > 1 {
		return false
	}
	c.Box = b
	for _, x := range sizes {
		n, _ := strconv.Atoi(x[1])
		c.Size = int64(n)
	}
	for _, x := range bodies {
		c.Eight = x[1] == "8"
	}
	return true
}

// modelReply tells the reply of lines.
func modelReply(l []string) (Reply, api.Errno) {
	var r Reply
	for i, s := range l {
		m := modelLine.FindStringSubmatch(s)
		if m == nil || (m[2] == " ") != (i == len(l)-1) || i > 0 && s[:3] != l[0][:3] {
			return Reply{}, api.ErrForm
		}
		r.Code, _ = strconv.Atoi(m[1])
		r.Lines = append(r.Lines, m[3])
	}
	if len(l) == 0 {
		return Reply{}, api.ErrForm
	}
	return r, api.OK
}

// writes holds a command's line, and that it comes back.
func writes(t *testing.T, c Cmd, want string) {
	t.Helper()
	if s, e := Write(c); s != want || e != api.OK {
		t.Errorf("%+v: %q, %d; want %q", c, s, e, want)
	}
	if c.Verb != api.Mail {
		c.Size = -1
	}
	reads(t, want, c)
}

// mayNot holds that a command has no line.
func mayNot(t *testing.T, c Cmd, want api.Errno) {
	t.Helper()
	if s, e := Write(c); s != "" || e != want {
		t.Errorf("%+v: %q, %d; want %d", c, s, e, want)
	}
}

// reads holds the command of a line, with spaces behind it too, and as the model has it.
func reads(t *testing.T, s string, want Cmd) {
	t.Helper()
	for _, behind := range []string{"", " ", "   ", rep(" ", 1000)} {
		if c, e := Parse(s + behind); c != want || e != api.OK {
			t.Errorf("%q and %d spaces: %+v, %d; want %+v", s, len(behind), c, e, want)
		}
	}
	asModel(t, s)
}

// refused holds that a line isn't a command's, with spaces behind it neither.
func refused(t *testing.T, s string, want api.Errno) {
	t.Helper()
	for _, behind := range []string{"", " ", "   "} {
		if c, e := Parse(s + behind); c != (Cmd{}) || e != want {
			t.Errorf("%q and %d spaces: %+v, %d; want %d", s, len(behind), c, e, want)
		}
	}
	asModel(t, s)
}

// asModel holds Parse against the model, and that a command that was read is written, and read again, as the same.
func asModel(t *testing.T, s string) {
	t.Helper()
	want, f := modelParse(s)
	c, e := Parse(s)
	if c != want || e != f {
		t.Errorf("%q: %+v, %d; want %+v, %d", s, c, e, want, f)
	}
	if e != api.OK {
		return
	}
	line, e := Write(c)
	if e != api.OK {
		t.Errorf("%q: %+v isn't written: %d", s, c, e)
	}
	if back, e := Parse(line); back != c || e != api.OK {
		t.Errorf("%q: %+v, written %q, is read as %+v, %d", s, c, line, back, e)
	}
}

// P10.1: Write

func TestWrite(t *testing.T) {
	for _, x := range []struct {
		c    Cmd
		want string
	}{
		{Cmd{Verb: api.Helo, Text: "a"}, "HELO a"},
		{Cmd{Verb: api.Helo, Text: "a.b-1.example"}, "HELO a.b-1.example"},
		{Cmd{Verb: api.Helo, Text: full.Domain}, "HELO " + full.Domain},
		{Cmd{Verb: api.Ehlo, Text: "0"}, "EHLO 0"},
		{Cmd{Verb: api.Ehlo, Text: "a.b"}, "EHLO a.b"},
		{Cmd{Verb: api.Mail, Size: -1}, "MAIL FROM:<>"},
		{Cmd{Verb: api.Mail}, "MAIL FROM:<> SIZE=0"},
		{Cmd{Verb: api.Mail, Eight: true}, "MAIL FROM:<> SIZE=0 BODY=8BITMIME"},
		{Cmd{Verb: api.Mail, Size: -1, Eight: true}, "MAIL FROM:<> BODY=8BITMIME"},
		{Cmd{Verb: api.Mail, Box: ann, Size: -1}, "MAIL FROM:<ann@a.example>"},
		{Cmd{Verb: api.Mail, Box: ann, Size: 12, Eight: true}, "MAIL FROM:<ann@a.example> SIZE=12 BODY=8BITMIME"},
		{Cmd{Verb: api.Mail, Box: xy, Size: 999999999999}, `MAIL FROM:<"x y"@b> SIZE=999999999999`},
		{Cmd{Verb: api.Mail, Box: odd, Size: 1}, `MAIL FROM:<"> SIZE=1 \"\\"@b-1.c> SIZE=1`},
		{Cmd{Verb: api.Mail, Box: full, Size: 100000000000, Eight: true}, `MAIL FROM:<"` + rep(`\"`, 64) + `"@` + full.Domain + "> SIZE=100000000000 BODY=8BITMIME"},
		{Cmd{Verb: api.Rcpt, Box: ann}, "RCPT TO:<ann@a.example>"},
		{Cmd{Verb: api.Rcpt, Box: xy}, `RCPT TO:<"x y"@b>`},
		{Cmd{Verb: api.Rcpt, Box: odd}, `RCPT TO:<"> SIZE=1 \"\\"@b-1.c>`},
		{Cmd{Verb: api.Data}, "DATA"},
		{Cmd{Verb: api.Rset}, "RSET"},
		{Cmd{Verb: api.Noop}, "NOOP"},
		{Cmd{Verb: api.Noop, Text: "x"}, "NOOP x"},
		{Cmd{Verb: api.Noop, Text: "a b"}, "NOOP a b"},
		{Cmd{Verb: api.Noop, Text: "a   b"}, "NOOP a   b"},
		{Cmd{Verb: api.Noop, Text: "SIZE=1 <Q>"}, "NOOP SIZE=1 <Q>"},
		{Cmd{Verb: api.Quit}, "QUIT"},
		{Cmd{Verb: api.Vrfy, Text: "x"}, "VRFY x"},
		{Cmd{Verb: api.Vrfy, Text: "!  ~"}, "VRFY !  ~"},
		{Cmd{Verb: api.Vrfy, Text: "Ann <ann@A.example>"}, "VRFY Ann <ann@A.example>"},
		{Cmd{Verb: api.Vrfy, Text: rep("z", 1<<16)}, "VRFY " + rep("z", 1<<16)},
	} {
		writes(t, x.c, x.want)
		if x.c.Verb == api.Mail {
			continue
		}
		for _, n := range []int64{-1, 1, -2, 999999999999, 1000000000000, math.MinInt64, math.MaxInt64} {
			x.c.Size = n
			writes(t, x.c, x.want)
		}
	}
}

// TestWriteNoVerb has verbs that aren't there, whatever else is said.
func TestWriteNoVerb(t *testing.T) {
	for _, v := range []int{0, -1, -2, -9, 10, 11, 100, 256 + 1, 1<<32 + 1, math.MinInt, math.MaxInt} {
		for _, c := range []Cmd{{}, {Size: -1}, {Text: "a"}, {Text: "A"}, {Text: " "}, {Box: ann}, {Box: addr.Box{Local: "a"}}, {Eight: true}, {Size: -2}, {Size: 1000000000000}} {
			c.Verb = v
			mayNot(t, c, api.ErrArg)
		}
	}
}

// TestWriteNotSaid has each thing that a verb doesn't say, beside what is right.
func TestWriteNotSaid(t *testing.T) {
	for v, right := range map[int]Cmd{
		api.Helo: {Text: "a"}, api.Ehlo: {Text: "a"}, api.Mail: {Box: ann}, api.Rcpt: {Box: ann}, api.Data: {}, api.Rset: {}, api.Noop: {Text: "a"}, api.Quit: {}, api.Vrfy: {Text: "a"},
	} {
		right.Verb = v
		if _, e := Write(right); e != api.OK {
			t.Errorf("%+v: %d", right, e)
		}
		for _, s := range []string{"a", "x y", " ", "\x00", "A"} {
			if c := right; right.Text == "" && v != api.Noop {
				c.Text = s
				mayNot(t, c, api.ErrForm)
			}
		}
		for _, b := range []addr.Box{ann, {Local: "a"}, {Domain: "a"}, {Local: "a", Domain: "A"}} {
			if c := right; v != api.Mail && v != api.Rcpt {
				c.Box = b
				mayNot(t, c, api.ErrForm)
			}
		}
		if c := right; v != api.Mail {
			c.Eight = true
			mayNot(t, c, api.ErrForm)
		}
	}
	mayNot(t, Cmd{Verb: api.Noop, Box: ann}, api.ErrForm)
	mayNot(t, Cmd{Verb: api.Noop, Eight: true}, api.ErrForm)
}

func TestWriteWrong(t *testing.T) {
	for _, s := range []string{"", "A", "Example.org", "a.B", "a b", " a", "a ", ".", "a.", ".a", "a..b", "-a", "a-", "a_b", "a@b", "[1.2.3.4]", "a\x00", "a\r\n", "\xff", "é", "\u212a", rep("a", 64), full.Domain + "b"} {
		mayNot(t, Cmd{Verb: api.Helo, Text: s}, api.ErrForm)
		mayNot(t, Cmd{Verb: api.Ehlo, Text: s}, api.ErrForm)
	}
	for _, b := range []addr.Box{{Local: "a"}, {Domain: "a"}, {Local: "a", Domain: "A"}, {Local: "a", Domain: "b."}, {Local: "a\x1f", Domain: "b"}, {Local: rep("a", 65), Domain: "b"}, {Local: "a", Domain: rep("b", 64)}} {
		mayNot(t, Cmd{Verb: api.Mail, Box: b, Size: -1}, api.ErrForm)
		mayNot(t, Cmd{Verb: api.Mail, Box: b, Size: 1, Eight: true}, api.ErrForm)
		mayNot(t, Cmd{Verb: api.Rcpt, Box: b, Size: -1}, api.ErrForm)
	}
	mayNot(t, Cmd{Verb: api.Rcpt, Size: -1}, api.ErrForm)
	mayNot(t, Cmd{Verb: api.Rcpt}, api.ErrForm)
	for _, s := range []string{" ", "  ", " a", "a ", " a ", "a  ", "\t", "a\t", "\ta", "a\nb", "a\r\n", "\x00", "\x1f", "\x7f", "a\x1fb", "a\x7fb", "\x80", "\xff", "é", "\u00a0"} {
		mayNot(t, Cmd{Verb: api.Noop, Text: s}, api.ErrForm)
		mayNot(t, Cmd{Verb: api.Vrfy, Text: s}, api.ErrForm)
	}
	mayNot(t, Cmd{Verb: api.Vrfy}, api.ErrForm)
	mayNot(t, Cmd{Verb: api.Vrfy, Size: -1}, api.ErrForm)
	for _, n := range []int64{-2, -3, -999999999999, math.MinInt64, 1000000000000, 1000000000001, 9999999999999, math.MaxInt64} {
		mayNot(t, Cmd{Verb: api.Mail, Box: ann, Size: n}, api.ErrForm)
		mayNot(t, Cmd{Verb: api.Mail, Size: n, Eight: true}, api.ErrForm)
	}
}

// TestSizes has sizes around each number of digits.
func TestSizes(t *testing.T) {
	for n := int64(1); n <= 1000000000000; n *= 10 {
		for _, x := range []int64{n - 1, n, n + 1, 5 * n} {
			c := Cmd{Verb: api.Mail, Box: ann, Size: x}
			if x > 999999999999 {
				mayNot(t, c, api.ErrForm)
				refused(t, "MAIL FROM:<ann@a.example> SIZE="+strconv.FormatInt(x, 10), api.ErrForm)
			} else {
				writes(t, c, "MAIL FROM:<ann@a.example> SIZE="+strconv.FormatInt(x, 10))
			}
		}
	}
	for _, digits := range []string{"0", "7", "12", "010", "900000"} {
		n, _ := strconv.ParseInt(digits, 10, 64)
		for zeros := range 15 {
			s := "MAIL FROM:<> SIZE=" + rep("0", zeros) + digits
			if zeros+len(digits) > 12 {
				refused(t, s, api.ErrForm)
			} else {
				reads(t, s, Cmd{Verb: api.Mail, Size: n})
			}
		}
	}
	for _, s := range []string{"", "-1", "-0", "+1", "+", "-", "1.", "1.0", ".1", "1e3", "0x1", "x", "1x", "x1", "1_0", "1,0", "\x001", "1\x00", "１", "٣", "²", "1\t", "\t1", "1\u00a0", "--1", "0b1", "0o7", "1SIZE=1", "SIZE=1", "=1", "18446744073709551616", "9223372036854775808", rep("0", 13), rep("0", 1<<16), rep("9", 1<<16)} {
		refused(t, "MAIL FROM:<> SIZE="+s, api.ErrForm)
		refused(t, "MAIL FROM:<> SIZE="+s+" BODY=7BIT", api.ErrForm)
		refused(t, "MAIL FROM:<> BODY=7BIT SIZE="+s, api.ErrForm)
	}
}

// TestTextBytes has each byte alone, at a text's begin, at its end, and inside.
func TestTextBytes(t *testing.T) {
	of := bytes256()
	for i := range len(of) {
		c := of[i : i+1]
		stands := 32 <= i && i <= 126
		for form, may := range map[string]bool{"?": stands && i != 32, "?a": stands && i != 32, "a?": stands && i != 32, "a?b": stands, "a ?b": stands, "a? b": stands} {
			s := strings.ReplaceAll(form, "?", c)
			for _, v := range []int{api.Noop, api.Vrfy} {
				if may {
					writes(t, Cmd{Verb: v, Text: s}, words[v-1]+" "+s)
				} else {
					mayNot(t, Cmd{Verb: v, Text: s}, api.ErrForm)
				}
				if !stands {
					refused(t, words[v-1]+" "+s, api.ErrForm)
				}
			}
		}
	}
}

// P10.1: Parse

// TestParseExamples has the chapter's examples.
func TestParseExamples(t *testing.T) {
	reads(t, "mail From: <a@B.c>  body=8bitmime size=012", Cmd{Verb: api.Mail, Box: addr.Box{Local: "a", Domain: "b.c"}, Size: 12, Eight: true})
	refused(t, "RCPT TO:<a@b> x", api.ErrForm)
}

func TestParse(t *testing.T) {
	for s, want := range map[string]Cmd{
		"HELO a":                                  {Verb: api.Helo, Text: "a", Size: -1},
		"helo Example.ORG":                        {Verb: api.Helo, Text: "example.org", Size: -1},
		"HeLo   A-1.b":                            {Verb: api.Helo, Text: "a-1.b", Size: -1},
		"EHLO 1.2":                                {Verb: api.Ehlo, Text: "1.2", Size: -1},
		"ehlo     A.B":                            {Verb: api.Ehlo, Text: "a.b", Size: -1},
		"EHLO " + strings.ToUpper(full.Domain):    {Verb: api.Ehlo, Text: full.Domain, Size: -1},
		"MAIL FROM:<>":                            {Verb: api.Mail, Size: -1},
		"MAIL FROM: <>":                           {Verb: api.Mail, Size: -1},
		"MAIL   FROM:   <>":                       {Verb: api.Mail, Size: -1},
		"mail from:<Ann@A.Example>":               {Verb: api.Mail, Box: addr.Box{Local: "Ann", Domain: "a.example"}, Size: -1},
		`MAIL FROM:<"ann"@a.example>`:             {Verb: api.Mail, Box: ann, Size: -1},
		`MAIL FROM:<@r,@s:"\x y"@B>`:              {Verb: api.Mail, Box: xy, Size: -1},
		`MAIL FROM:<"> SIZE=1 \"\\"@B-1.c>`:       {Verb: api.Mail, Box: odd, Size: -1},
		"MAIL FROM:<> SIZE=0":                     {Verb: api.Mail, Size: 0},
		"MAIL FROM:<>   SIZE=000000000000":        {Verb: api.Mail, Size: 0},
		"MAIL FROM:<> size=000000000001":          {Verb: api.Mail, Size: 1},
		"MAIL FROM:<> SiZe=999999999999":          {Verb: api.Mail, Size: 999999999999},
		"MAIL FROM:<> BODY=8BITMIME":              {Verb: api.Mail, Size: -1, Eight: true},
		"MAIL FROM:<> body=8bitMIME":              {Verb: api.Mail, Size: -1, Eight: true},
		"MAIL FROM:<>     BODY=7BIT":              {Verb: api.Mail, Size: -1},
		"MAIL FROM:<> Body=7bIt":                  {Verb: api.Mail, Size: -1},
		"MAIL FROM:<> SIZE=5 BODY=8BITMIME":       {Verb: api.Mail, Size: 5, Eight: true},
		"MAIL FROM:<> BODY=8BITMIME SIZE=5":       {Verb: api.Mail, Size: 5, Eight: true},
		"MAIL FROM:<>  size=05   body=7bit":       {Verb: api.Mail, Size: 5},
		"MAIL FROM:<> BODY=7BIT    SIZE=5":        {Verb: api.Mail, Size: 5},
		"MAIL   FROM:<a@b>   SIZE=1   BODY=7BIT":  {Verb: api.Mail, Box: addr.Box{Local: "a", Domain: "b"}, Size: 1},
		"RCPT TO:<ann@a.example>":                 {Verb: api.Rcpt, Box: ann, Size: -1},
		"rcpt to:     <ann@A.EXAMPLE>":            {Verb: api.Rcpt, Box: ann, Size: -1},
		"Rcpt    To: <@x:ann@a.example>":          {Verb: api.Rcpt, Box: ann, Size: -1},
		`RCPT TO:<"x y"@B>`:                       {Verb: api.Rcpt, Box: xy, Size: -1},
		`RCPT TO:<"> SIZE=1 \"\\"@b-1.c>`:         {Verb: api.Rcpt, Box: odd, Size: -1},
		"DATA":                                    {Verb: api.Data, Size: -1},
		"data":                                    {Verb: api.Data, Size: -1},
		"RSET":                                    {Verb: api.Rset, Size: -1},
		"rSeT":                                    {Verb: api.Rset, Size: -1},
		"NOOP":                                    {Verb: api.Noop, Size: -1},
		"noop":                                    {Verb: api.Noop, Size: -1},
		"NOOP x":                                  {Verb: api.Noop, Text: "x", Size: -1},
		"NOOP    a   b":                           {Verb: api.Noop, Text: "a   b", Size: -1},
		"Noop NOOP":                               {Verb: api.Noop, Text: "NOOP", Size: -1},
		"NOOP " + rep("a ", 1<<16) + "b":          {Verb: api.Noop, Text: rep("a ", 1<<16) + "b", Size: -1},
		"QUIT":                                    {Verb: api.Quit, Size: -1},
		"quIT":                                    {Verb: api.Quit, Size: -1},
		"VRFY ann":                                {Verb: api.Vrfy, Text: "ann", Size: -1},
		"vrfy    Ann B":                           {Verb: api.Vrfy, Text: "Ann B", Size: -1},
		"vrfy <a@B>":                              {Verb: api.Vrfy, Text: "<a@B>", Size: -1},
		"VRFY" + rep(" ", 1<<16) + "~":            {Verb: api.Vrfy, Text: "~", Size: -1},
		"MAIL" + rep(" ", 999) + "FROM:<> SIZE=1": {Verb: api.Mail, Size: 1},
	} {
		reads(t, s, want)
	}
}

// TestParseNoVerb has lines that don't begin with a verb.
func TestParseNoVerb(t *testing.T) {
	for _, s := range []string{
		"", "\x00", "\t", "\r\n", "x", "MAI", "MAILS", "HELLO", "HEL", "EHLOS", "H", "DAT", "DATAX", "QUITE", "EXPN x", "HELP", "TURN", "AUTH PLAIN", "STARTTLS", "BDAT 1", "250 ok",
		"HELLO a", "MAI FROM:<>", "MAILFROM:<>", "MAIL-FROM:<>", "MAIL:<>", "RCPTTO:<a@b>", "FROM:<>", "NOOPx", "VRFYann", "DATA.", "DATA\r\n", "QUIT\x00", "QUIT\n", "\xffQUIT", "\"QUIT\"", "<>",
		"HELO\ta", "MAIL\tFROM:<>", "RCPT\tTO:<a@b>", "NOOP\t", "VRFY\tx", "DATA\t", "QUIT\u00a0", "HELO\u00a0a", "DATA\x0b", "\tDATA", "\u00a0DATA", "\ufeffDATA",
		"R\u017fET", "D\u00c4TA", "MA\u0131L", "MA\u0130L FROM:<>", "QU\u0131T", "\uff31UIT", "QUI\u0354T", "R\u017fE", "DA\xc2TA",
		"M AIL FROM:<>", "QU IT",
	} {
		refused(t, s, api.ErrArg)
		refused(t, " "+s, api.ErrArg)
		refused(t, "   "+s, api.ErrArg)
	}
	for _, w := range words {
		refused(t, " "+w, api.ErrArg)
		refused(t, " "+w+" a", api.ErrArg)
		refused(t, w[:3], api.ErrArg)
		refused(t, w[1:], api.ErrArg)
		refused(t, w+w, api.ErrArg)
		refused(t, w+"\t", api.ErrArg)
		refused(t, w+"\x00 a", api.ErrArg)
		for i := range 256 {
			if i != ' ' {
				refused(t, w+string([]byte{byte(i)}), api.ErrArg)
				refused(t, w+string([]byte{byte(i)})+" a", api.ErrArg)
			}
		}
	}
}

func TestParseWrong(t *testing.T) {
	for _, s := range []string{
		// Of Helo and Ehlo.
		"HELO", "HELO a b", "HELO a. b", "HELO .", "HELO a.", "HELO -a", "HELO a_b", "HELO [1.2.3.4]", "HELO a@b", "HELO <a>", "HELO a\t", "HELO \ta", "HELO a\r\n", "HELO \u212a", "HELO é", "HELO " + rep("a", 64), "HELO " + full.Domain + "b", "HELO " + rep("a.", 1<<16), "EHLO", "EHLO a b", "EHLO a  a", "EHLO \x00", "EHLO a-",
		// Of Mail: what isn't there, or isn't whole.
		"MAIL", "MAIL F", "MAIL FROM", "MAIL FROM:", "MAIL FROM :<>", "MAIL  FROM : <>", "MAIL TO:<>", "MAIL <>", "MAIL :<>", "MAIL FROM<>", "MAIL FROM:FROM:<>", "MAIL FROM:a@b", "MAIL FROM:<", "MAIL FROM:>", "MAIL FROM:<a@b", "MAIL FROM:a@b>", "MAIL FROM:<a>", "MAIL FROM:<a..b@c>", "MAIL FROM:< >", "MAIL FROM:< a@b>", "MAIL FROM:<a@b >", "MAIL FROM:<\"a\x1f\"@b>", "MAIL FROM:\t<>", "MAIL FROM:<>\t", "MAIL \tFROM:<>", "MAIL FROM\t:<>", "MAIL FROM:\u00a0<>", "MAIL FROM:<\"a",
		// Of Mail: right behind the path.
		"MAIL FROM:<>x", "MAIL FROM:<a@b>x", "MAIL FROM:<>>", "MAIL FROM:<><>", "MAIL FROM:<>SIZE=1", "MAIL FROM:<>BODY=7BIT", "MAIL FROM:<a@b>, SIZE=1", "MAIL FROM:<>;", "MAIL FROM:<>\x00", "MAIL FROM:<>\tSIZE=1",
		// Of Mail: behind spaces.
		"MAIL FROM:<> x", "MAIL FROM:<> <>", "MAIL FROM:<> X=1", "MAIL FROM:<> SIZE", "MAIL FROM:<> BODY", "MAIL FROM:<> =", "MAIL FROM:<> SIZE =1", "MAIL FROM:<> SIZE= 1", "MAIL FROM:<> SIZES=1", "MAIL FROM:<> XSIZE=1", "MAIL FROM:<> SIZE:1", "MAIL FROM:<> BODY=", "MAIL FROM:<> BODY= 7BIT", "MAIL FROM:<> BODY =7BIT", "MAIL FROM:<> BODY=x", "MAIL FROM:<> BODY=8BIT", "MAIL FROM:<> BODY=7BITMIME", "MAIL FROM:<> BODY=8BITMIMEx", "MAIL FROM:<> BODY=7BITx", "MAIL FROM:<> BODY=BITMIME", "MAIL FROM:<> BODY=7", "MAIL FROM:<> BODY=BINARYMIME", "MAIL FROM:<> SIZE=1x", "MAIL FROM:<> SIZE=1;", "MAIL FROM:<> SIZE=1BODY=7BIT", "MAIL FROM:<> BODY=7BITSIZE=1", "MAIL FROM:<> BODY=8BITMIMESIZE=1", "MAIL FROM:<> SIZE=1,BODY=7BIT", "MAIL FROM:<> SIZE=1\tBODY=7BIT", "MAIL FROM:<> SIZE=1\t", "MAIL FROM:<> \tSIZE=1", "MAIL FROM:<> SIZE=1 x", "MAIL FROM:<> BODY=7BIT x", "MAIL FROM:<> SIZE=1 BODY=7BIT x", "MAIL FROM:<> x SIZE=1", "MAIL FROM:<> SIZE=1 x BODY=7BIT", "MAIL FROM:<> SIZE=1 BODY=7BIT AUTH=<>", "MAIL FROM:<> SMTPUTF8", "MAIL FROM:<> SIZE=1 \x00",
		// Of Mail: twice.
		"MAIL FROM:<> SIZE=1 SIZE=1", "MAIL FROM:<> SIZE=1 SIZE=2", "MAIL FROM:<> size=1 SIZE=2", "MAIL FROM:<> SIZE=0 SIZE=0", "MAIL FROM:<> BODY=7BIT BODY=7BIT", "MAIL FROM:<> BODY=8BITMIME BODY=8BITMIME", "MAIL FROM:<> BODY=7BIT BODY=8BITMIME", "MAIL FROM:<> BODY=8BITMIME BODY=7BIT", "MAIL FROM:<> SIZE=1 BODY=7BIT SIZE=1", "MAIL FROM:<> BODY=7BIT SIZE=1 BODY=7BIT", "MAIL FROM:<> BODY=7BIT SIZE=1 SIZE=1", "MAIL FROM:<> SIZE=1 BODY=7BIT BODY=8BITMIME", "MAIL FROM:<>" + rep(" SIZE=1", 1<<15),
		// Of Mail: letters that aren't of A to Z.
		"MAIL FROM:<> \u017fIZE=1", "MAIL FROM:<> S\u0131ZE=1", "MAIL FROM:<> S\u0130ZE=1", "MAIL FROM:<> BODY=8B\u0131TMIME", "MAIL FROM:<> BODY=7B\u0130T", "MAIL FROM:<> BODY=\uff17BIT", "MAIL FR\u00d6M:<>", "MAIL FROM\uff1a<>",
		// Of Rcpt.
		"RCPT", "RCPT T", "RCPT TO", "RCPT TO:", "RCPT TO:<>", "RCPT TO: <>", "RCPT TO:   <>", "RCPT to:<> SIZE=1", "RCPT FROM:<a@b>", "RCPT <a@b>", "RCPT :<a@b>", "RCPT TO<a@b>", "RCPT TO :<a@b>", "RCPT TO:a@b", "RCPT TO:<a@b", "RCPT TO:<a@b>x", "RCPT TO:<a@b><a@b>", "RCPT TO:<a@b> x", "RCPT TO:<a@b> <a@b>", "RCPT TO:<a@b> SIZE=1", "RCPT TO:<a@b> BODY=7BIT", "RCPT TO:<a@b>\t", "RCPT TO:\t<a@b>", "RCPT TO:<a>", "RCPT TO:<a..b@c>", "RCPT TO:< a@b>", "RCPT TO:<postmaster>", "RCPT TO:<a@B.>", "RCPT TO:<@x:>",
		// Of those that say nothing.
		"DATA x", "DATA   x", "DATA \t", "DATA .", "DATA DATA", "RSET x", "RSET \x00", "RSET RSET", "QUIT x", "QUIT now", "QUIT \r\n", "QUIT QUIT", "QUIT \u00a0",
		// Of Vrfy and Noop.
		"VRFY", "VRFY \x01", "VRFY \x1f", "VRFY \x7f", "VRFY \x80", "VRFY a\x1fb", "VRFY a\tb", "VRFY \t", "VRFY a\r\n", "VRFY é", "NOOP \x00", "NOOP \x1f", "NOOP \x7f", "NOOP \xff", "NOOP a\tb", "NOOP \ta", "NOOP a\t", "NOOP a\r\n", "NOOP é", "NOOP \u00a0",
	} {
		refused(t, s, api.ErrForm)
	}
}

// TestParseLetters has the words in all letters that they may be written in.
func TestParseLetters(t *testing.T) {
	for i, w := range words {
		v := i + 1
		for seed := range 16 {
			s, want := inLetters(w, seed), Cmd{Verb: v, Size: -1}
			switch v {
			case api.Helo, api.Ehlo:
				s, want.Text = s+" A.b", "a.b"
			case api.Mail:
				s = s + " " + inLetters("FROM:", seed) + "<>"
			case api.Rcpt:
				s, want.Box = s+" "+inLetters("TO:", seed)+"<ann@A.example>", ann
			case api.Vrfy:
				s, want.Text = s+" A", "A"
			}
			reads(t, s, want)
		}
	}
	for seed := range 256 {
		reads(t, "MAIL FROM:<> "+inLetters("SIZE=", seed)+"3", Cmd{Verb: api.Mail, Size: 3})
		reads(t, "MAIL FROM:<> "+inLetters("BODY=7BIT", 2*seed+seed%2), Cmd{Verb: api.Mail, Size: -1})
		reads(t, "MAIL FROM:<> "+inLetters("BODY=", seed)+inLetters("8BITMIME", seed), Cmd{Verb: api.Mail, Size: -1, Eight: true})
	}
}

// TestParseSpaces has spaces, none, one and several, at each place.
func TestParseSpaces(t *testing.T) {
	for seed := range 4 * 4 * 4 * 4 * 4 {
		at := func(i int) string { return rep(" ", seed>>(2*i)&3) }
		asModel(t, "MAIL"+at(0)+"FROM:"+at(1)+"<a@B>"+at(2)+"SIZE=1"+at(3)+"BODY=8BITMIME"+at(4))
		asModel(t, "mail"+at(0)+"from:"+at(1)+"<>"+at(2)+"body=7bit"+at(3)+"size=01"+at(4))
		asModel(t, at(4)+"MAIL"+at(0)+"FROM"+at(1)+":<>"+at(2)+"SIZE"+at(3)+"=1")
		asModel(t, "RCPT"+at(0)+"TO"+at(4)+":"+at(1)+"<"+at(2)+"a@b>"+at(3))
		asModel(t, at(3)+"VRFY"+at(0)+"a"+at(1)+"b"+at(2))
		asModel(t, "NOOP"+at(0)+"a"+at(1)+"b"+at(2))
		asModel(t, "EHLO"+at(0)+"A"+at(1)+".b"+at(2))
		asModel(t, "QU"+at(0)+"IT"+at(1))
	}
}

// TestParseBytes has each byte at each place of lines, in place of what stands there, and between.
func TestParseBytes(t *testing.T) {
	of := bytes256()
	for _, s := range []string{"HELO a.b", "ehlo  A-1", "MAIL FROM:<>", "MAIL FROM:<a@B>  SIZE=12 BODY=8BITMIME", "mail from: <> body=7bit size=000000000012 ", `RCPT TO:<"x \" y"@b>`, "rcpt  To:  <@x:a@b> ", "DATA", "rset ", "NOOP", "NOOP a b ", "QUIT", "VRFY  a  b"} {
		for at := range len(s) {
			asModel(t, s[:at])
			asModel(t, s[:at]+s[at+1:])
			for i := range len(of) {
				asModel(t, s[:at]+of[i:i+1]+s[at+1:])
				asModel(t, s[:at]+of[i:i+1]+s[at:])
				asModel(t, s+of[i:i+1])
			}
		}
		asModel(t, s)
	}
}

// TestParseAll has all short rows of parts that something hangs on.
func TestParseAll(t *testing.T) {
	texts([]string{" ", "SIZE=", "size=1", "BODY=8bitmime", "body=7BIT", "0", "x", ">"}, 6, func(s string) { asModel(t, "MAIL FROM:<>"+s) })
	texts([]string{" ", "MAIL", "from:", "TO:", "rcpt", "<a@B>", "<>", "x"}, 6, func(s string) { asModel(t, s) })
	texts([]string{" ", "NOOP", "vrfy", "helo", "a", ".", "\x1f"}, 6, func(s string) { asModel(t, s) })
}

// line draws a line of a command as it may be written, and the command.
func line(seed uint64) (string, Cmd) {
	space := func(i uint64, n uint64) string { return rep(" ", int(seed>>(i*3)%4+n)) }
	box := addr.Box{Local: drawn(seed, bytes256()[32:127], 1+int(seed%64)), Domain: drawn(seed, "abcXYZ0", 1+int(seed%20))}
	path, _ := addr.Path(addr.Box{Local: box.Local, Domain: modelSmall(box.Domain)})
	path = strings.TrimSuffix(path, modelSmall(box.Domain)+">") + box.Domain + ">"
	box.Domain = modelSmall(box.Domain)
	c := Cmd{Verb: 1 + int(seed%9), Size: -1}
	s := inLetters(words[c.Verb-1], int(seed>>7%16))
	switch c.Verb {
	case api.Helo, api.Ehlo:
		d := drawn(seed, "abcXYZ0", 1+int(seed%63))
		c.Text, s = modelSmall(d), s+space(0, 1)+d
	case api.Mail:
		s += space(0, 1) + inLetters("FROM:", int(seed>>5%32)) + space(1, 0)
		if c.Box = box; seed>>9%3 == 0 {
			c.Box, path = none, "<>"
		}
		s += path
		size, body := "", ""
		if seed>>11%2 == 0 {
			digits := drawn(seed, "0123456789", 1+int(seed>>12%12))
			n, _ := strconv.ParseInt(digits, 10, 64)
			c.Size, size = n, space(2, 1)+inLetters("SIZE=", int(seed>>4%16))+digits
		}
		if seed>>13%3 > 0 {
			c.Eight = seed>>13%3 == 1
			body = space(3, 1) + inLetters("BODY="+[]string{"8BITMIME", "7BIT"}[seed>>13%3-1], int(seed))
		}
		if seed>>15%2 == 0 {
			size, body = body, size
		}
		s += size + body
	case api.Rcpt:
		c.Box, s = box, s+space(0, 1)+inLetters("TO:", int(seed>>5%4))+space(1, 0)+path
	case api.Noop, api.Vrfy:
		c.Text = "a" + drawn(seed, bytes256()[32:127], int(seed%64)) + "b"
		s += space(0, 1) + c.Text
	}
	return s + space(4, 0), c
}

func TestParseDrawn(t *testing.T) {
	of := bytes256()[32:127]
	for i := range uint64(6000) {
		seed := i * 0x9e3779b97f4a7c15 >> 20
		s, want := line(seed)
		if c, e := Parse(s); c != want || e != api.OK {
			t.Errorf("%q: %+v, %d; want %+v", s, c, e, want)
		}
		asModel(t, s)
		// One byte is another, there are two of one, one is away.
		for k := range uint64(8) {
			at := int((i*31 + k*17) % uint64(len(s)))
			asModel(t, s[:at]+drawn(seed+k, of, 1)+s[at+1:])
			asModel(t, s[:at]+s[at:at+1]+s[at:])
			asModel(t, s[:at]+s[at+1:])
		}
	}
}

// P10.2

// sameReply tells whether replies are the same; a list of none and nil are one.
func sameReply(a, b Reply) bool {
	return a.Code == b.Code && slices.Equal(a.Lines, b.Lines)
}

// tells holds a reply's lines, that they come back, and that they are whole, with whatever stands behind.
func tells(t *testing.T, r Reply, want []string) {
	t.Helper()
	before := slices.Clone(r.Lines)
	l, e := Lines(r)
	if !slices.Equal(l, want) || e != api.OK {
		t.Errorf("%+v: %q, %d; want %q", r, l, e, want)
	}
	if !slices.Equal(r.Lines, before) {
		t.Errorf("%+v was %q", r, before)
	}
	isReply(t, want, r)
	for _, behind := range [][]string{nil, {""}, {"250 ok"}, {"250-a", "250 b"}, {"x"}, {"250 "}, want} {
		if n := Whole(append(slices.Clone(want), behind...)); n != len(want) {
			t.Errorf("%q and %q: %d are whole; want %d", want, behind, n, len(want))
		}
	}
}

// tellsNone holds that a reply has no lines.
func tellsNone(t *testing.T, r Reply, want api.Errno) {
	t.Helper()
	if l, e := Lines(r); len(l) != 0 || e != want {
		t.Errorf("%+v: %q, %d; want %d", r, l, e, want)
	}
}

// isReply holds the reply of lines.
func isReply(t *testing.T, l []string, want Reply) {
	t.Helper()
	before := slices.Clone(l)
	if r, e := ReadReply(l); !sameReply(r, want) || e != api.OK {
		t.Errorf("%q: %+v, %d; want %+v", l, r, e, want)
	}
	if !slices.Equal(l, before) {
		t.Errorf("%q was %q", l, before)
	}
}

// noReply holds that lines aren't a reply's.
func noReply(t *testing.T, l ...string) {
	t.Helper()
	if r, e := ReadReply(l); !sameReply(r, Reply{}) || e != api.ErrForm {
		t.Errorf("%q: %+v, %d; want that it is none", l, r, e)
	}
}

func TestLines(t *testing.T) {
	for _, x := range []struct {
		r    Reply
		want []string
	}{
		{Reply{250, []string{"ok"}}, []string{"250 ok"}},
		{Reply{200, []string{"ok"}}, []string{"200 ok"}},
		{Reply{599, []string{"a", "b"}}, []string{"599-a", "599 b"}},
		{Reply{354, []string{""}}, []string{"354 "}},
		{Reply{354, []string{"", ""}}, []string{"354-", "354 "}},
		{Reply{220, []string{"a", "", "c"}}, []string{"220-a", "220-", "220 c"}},
		{Reply{220, []string{" "}}, []string{"220  "}},
		{Reply{220, []string{"-", " ", "-"}}, []string{"220--", "220- ", "220 -"}},
		{Reply{451, []string{" a ", " b "}}, []string{"451- a ", "451  b "}},
		{Reply{250, []string{"250 ok", "250 ok"}}, []string{"250-250 ok", "250 250 ok"}},
		{Reply{250, []string{" !~", "~! "}}, []string{"250- !~", "250 ~! "}},
		{Reply{250, []string{bytes256()[32:127]}}, []string{"250 " + bytes256()[32:127]}},
		{Reply{250, []string{"a.example", "SIZE 15000", "8BITMIME", "PIPELINING"}}, []string{"250-a.example", "250-SIZE 15000", "250-8BITMIME", "250 PIPELINING"}},
		{Reply{550, []string{rep("x", 1<<16)}}, []string{"550 " + rep("x", 1<<16)}},
	} {
		tells(t, x.r, x.want)
	}
	many := Reply{Code: 250}
	var want []string
	for i := range 3000 {
		many.Lines, want = append(many.Lines, strconv.Itoa(i)), append(want, "250-"+strconv.Itoa(i))
		last := slices.Clone(want)
		last[i] = "250 " + strconv.Itoa(i)
		if i < 20 || i == 2999 {
			tells(t, many, last)
		}
	}
}

func TestLinesCodes(t *testing.T) {
	for code := -1000; code <= 3000; code++ {
		if code < 200 || code > 599 {
			for _, l := range [][]string{{"ok"}, {"a", "b"}, {}, nil, {"\t"}} {
				tellsNone(t, Reply{code, l}, api.ErrRange)
			}
			continue
		}
		s := strconv.Itoa(code)
		tells(t, Reply{code, []string{"ok"}}, []string{s + " ok"})
		tells(t, Reply{code, []string{"a", ""}}, []string{s + "-a", s + " "})
		tellsNone(t, Reply{code, nil}, api.ErrForm)
		tellsNone(t, Reply{code, []string{"\x1f"}}, api.ErrForm)
	}
	for _, code := range []int{math.MinInt, math.MaxInt, 1<<32 + 250, -250, 2500, 25} {
		tellsNone(t, Reply{code, []string{"ok"}}, api.ErrRange)
		tellsNone(t, Reply{code, nil}, api.ErrRange)
	}
}

func TestLinesWrong(t *testing.T) {
	tellsNone(t, Reply{}, api.ErrRange)
	tellsNone(t, Reply{Code: 250}, api.ErrForm)
	tellsNone(t, Reply{250, []string{}}, api.ErrForm)
	of := bytes256()
	for i := range len(of) {
		c := of[i : i+1]
		for _, form := range []string{"?", "?a", "a?", "a?b"} {
			s := strings.ReplaceAll(form, "?", c)
			for at := range 3 {
				l := []string{"x", "y", "z"}
				l[at] = s
				if 32 <= i && i <= 126 {
					want := []string{"250-x", "250-y", "250 z"}
					want[at] = want[at][:4] + s
					tells(t, Reply{250, l}, want)
				} else {
					tellsNone(t, Reply{250, l}, api.ErrForm)
					told := []string{"250-x", "250-y", "250 z"}
					told[at] = told[at][:4] + s
					noReply(t, told...)
				}
			}
		}
	}
	for _, s := range []string{"a\r\n", "\n", "é", "\u00a0", rep("a", 1<<16) + "\x7f"} {
		tellsNone(t, Reply{250, []string{s}}, api.ErrForm)
		noReply(t, "250 "+s)
	}
}

func TestReadReply(t *testing.T) {
	isReply(t, []string{"200 "}, Reply{200, []string{""}})
	isReply(t, []string{"599 x y"}, Reply{599, []string{"x y"}})
	isReply(t, []string{"250--", "250-", "250 -"}, Reply{250, []string{"-", "", "-"}})
	for _, l := range [][]string{
		nil, {}, {""}, {" "}, {"2"}, {"25"}, {"250"}, {"-"}, {"    "}, {"", ""}, {"250", "250"}, {"250", "250 ok"}, {"", "250 ok"}, {"250-a", ""}, {"250-a", "250"}, {"250 ok", ""},
		{"250-x"}, {"250-"}, {"250-x", "250-y"}, {"250 x", "250 y"}, {"250 x", "250-y"}, {"250-x", "250 y", "250 z"}, {"250-x", "250-y", "250-z"}, {"250 x", "250-y", "250 z"}, {"250 x", "x"},
		{"250-x", "251 y"}, {"250-x", "251-y", "250 z"}, {"250-x", "250-y", "550 z"}, {"251-x", "250-y", "250 z"}, {"250-x", "y"}, {"250-x", "    "}, {"250-x", "25x y"}, {"250-x", "    y"},
		{"250xy"}, {"250\tx"}, {"250_x"}, {"250.x"}, {"250:x"}, {"250\x00x"}, {"250+x"}, {"2500 x"}, {"250\u00a0x"}, {"250–x"}, {"250x", "250 y"}, {"250\ty", "250 x"}, {"250xa", "250 b"}, {"250_a", "250 b"},
		{"199 x"}, {"600 x"}, {"000 x"}, {"100 x"}, {"999 x"}, {"199-x", "199 y"}, {"600-x", "600 y"}, {"000-x", "000 y"},
		{"25x y"}, {"x50 y"}, {"2x0 y"}, {"+50 y"}, {"-50 y"}, {"+25 y"}, {" 25 y"}, {"25  y"}, {" 250 y"}, {"2.5 y"}, {"2e2 y"}, {"0x2 y"}, {"2_5 y"}, {"２50 y"}, {"abc y"}, {"\x00\x00\x00 y"}, {"2\xb20 x"}, {"+50-x", "+50 y"}, {"25x-x", "25x y"},
		{"250 \x7f"}, {"250 \x1f"}, {"250 \t"}, {"250 ok\r\n"}, {"250 é"}, {"250 \xff"}, {"250-\x00", "250 ok"}, {"250-\x7f", "250 ok"}, {"250-a", "250 \x1f"},
	} {
		noReply(t, l...)
	}
}

// TestReadReplyAll has all short rows of parts that something hangs on, and each byte at each place.
func TestReadReplyAll(t *testing.T) {
	hold := func(l []string) {
		t.Helper()
		want, f := modelReply(l)
		r, e := ReadReply(l)
		if !sameReply(r, want) || e != f {
			t.Errorf("%q: %+v, %d; want %+v, %d", l, r, e, want, f)
		}
		if e != api.OK {
			return
		}
		if back, e := Lines(r); !slices.Equal(back, l) || e != api.OK {
			t.Errorf("%q: %+v has %q, %d", l, r, back, e)
		}
	}
	parts := []string{"", "250", "250 ", "250-", "250-x", "250 x", "251-", "251 y", "199 x", "199-x", "250x", "ab c", "250 \x7f"}
	for _, a := range parts {
		hold([]string{a})
		for _, b := range parts {
			hold([]string{a, b})
			for _, c := range parts {
				hold([]string{a, b, c})
				for _, d := range parts {
					hold([]string{a, b, c, d})
				}
			}
		}
	}
	of := bytes256()
	for line := range 3 {
		for at := range 6 {
			for i := range len(of) {
				l := []string{"354-ab", "354-cd", "354 ef"}
				s := l[line]
				l[line] = s[:at] + of[i:i+1] + s[at+1:]
				hold(l)
				hold(l[line : line+1])
				l[line] = s[:at] + of[i:i+1] + s[at:]
				hold(l)
				l[line] = s[:at]
				hold(l)
			}
		}
	}
	for code := range 1000 {
		s := strconv.Itoa(1000 + code)[1:]
		hold([]string{s + " x"})
		hold([]string{s + "-x", s + " y"})
		hold([]string{s + "-x", "250 y"})
		hold([]string{"250-x", s + " y"})
	}
}

func TestWhole(t *testing.T) {
	for _, x := range []struct {
		l    []string
		want int
	}{
		{nil, 0}, {[]string{}, 0}, {[]string{""}, 0}, {[]string{"", "", ""}, 0}, {[]string{"250"}, 0}, {[]string{"   "}, 0}, {[]string{"250-"}, 0}, {[]string{"250-x"}, 0}, {[]string{"250-x", "250-y"}, 0}, {[]string{"250\tx"}, 0}, {[]string{"2500 x"}, 0}, {[]string{"25 x"}, 0}, {[]string{" 250"}, 0}, {[]string{"250\xa0"}, 0}, {[]string{"250\x00 "}, 0}, {[]string{"250- "}, 0},
		{[]string{"250 "}, 1}, {[]string{"250 x"}, 1}, {[]string{"    "}, 1}, {[]string{"abc y"}, 1}, {[]string{"\x00\xff\x00 "}, 1}, {[]string{"---  "}, 1}, {[]string{"250 x", "250 y"}, 1}, {[]string{"250 x", ""}, 1}, {[]string{"250 x", "250-y", "250 z"}, 1}, {[]string{"250 \x7f"}, 1}, {[]string{"000 x"}, 1},
		{[]string{"250-x", "250 y"}, 2}, {[]string{"250-x", "251 y"}, 2}, {[]string{"", "250 y"}, 2}, {[]string{"250", "250 y"}, 2}, {[]string{"25 x", "250 y"}, 2}, {[]string{"x", "abc y", "250 z"}, 2},
		{[]string{"250-x", "25", "abc y"}, 3}, {[]string{"250-x", "250-y", "250 z", "250-a", "250 b"}, 3}, {[]string{"", "250", "    ", "250 z"}, 3}, {[]string{"250-", "250-", "250 "}, 3},
	} {
		before := slices.Clone(x.l)
		if n := Whole(x.l); n != x.want || !slices.Equal(x.l, before) {
			t.Errorf("%q: %d; want %d", before, n, x.want)
		}
	}
	for n := range 100 {
		ahead := slices.Repeat([]string{"250-x"}, n)
		if got := Whole(ahead); got != 0 {
			t.Errorf("%d lines ahead: %d", n, got)
		}
		if got := Whole(append(ahead, "250 y", "250 z")); got != n+1 {
			t.Errorf("%d lines ahead of the last one: %d", n, got)
		}
	}
	for i := range 256 {
		want := 0
		if i == ' ' {
			want = 1
		}
		if n := Whole([]string{"250" + string([]byte{byte(i)}) + "x"}); n != want {
			t.Errorf("byte %d: %d", i, n)
		}
		if n := Whole([]string{string([]byte{byte(i), byte(i), byte(i)}) + " "}); n != 1 {
			t.Errorf("three bytes %d: %d", i, n)
		}
	}
}

func TestClass(t *testing.T) {
	for code := -1000; code <= 3000; code++ {
		want := 0
		for digit := 2; digit <= 5; digit++ {
			if 100*digit <= code && code < 100*(digit+1) {
				want = digit
			}
		}
		if n := Class(code); n != want {
			t.Errorf("%d: %d, want %d", code, n, want)
		}
	}
	for _, code := range []int{math.MinInt, math.MaxInt, 1<<32 + 250, -250, -599, 20000, 25} {
		if n := Class(code); n != 0 {
			t.Errorf("%d: %d", code, n)
		}
	}
}

// P10.3

// TestThereAndBack holds that a command's line is read as it, and that a reply's lines are.
func TestThereAndBack(t *testing.T) {
	texts([]string{"a", "B", " ", "\"", "<", "=", "~", "!"}, 5, func(s string) {
		if s == "" || strings.Trim(s, " ") != s {
			return
		}
		for _, v := range []int{api.Noop, api.Vrfy} {
			writes(t, Cmd{Verb: v, Text: s}, words[v-1]+" "+s)
		}
		box := addr.Box{Local: s, Domain: "c"}
		path, _ := addr.Path(box)
		writes(t, Cmd{Verb: api.Rcpt, Box: box}, "RCPT TO:"+path)
		writes(t, Cmd{Verb: api.Mail, Box: box, Size: int64(len(s)), Eight: true}, "MAIL FROM:"+path+" SIZE="+strconv.Itoa(len(s))+" BODY=8BITMIME")
	})
	for i := range uint64(3000) {
		_, c := line(i * 0x9e3779b97f4a7c15 >> 20)
		s, e := Write(c)
		if e != api.OK {
			t.Errorf("%+v: %d", c, e)
		}
		if back, e := Parse(s); back != c || e != api.OK {
			t.Errorf("%+v: %q is read as %+v, %d", c, s, back, e)
		}
		r := Reply{Code: 200 + int(i%400)}
		for k := range i%7 + 1 {
			r.Lines = append(r.Lines, drawn(i*7+k, bytes256()[32:127], int((i+k)%40)))
		}
		l, e := Lines(r)
		if e != api.OK || len(l) != len(r.Lines) || Whole(l) < 1 || Whole(l) > len(l) {
			t.Errorf("%+v: %q, %d", r, l, e)
		}
		if back, e := ReadReply(l); !sameReply(back, r) || e != api.OK {
			t.Errorf("%+v: %q is read as %+v, %d", r, l, back, e)
		}
		if Class(r.Code) != int(l[0][0]-'0') {
			t.Errorf("%+v: class %d", r, Class(r.Code))
		}
	}
}

// R3, R4, R5

// TestSharesNothing holds that what is answered is new, and stays as it is.
func TestSharesNothing(t *testing.T) {
	r := Reply{250, []string{"a", "b"}}
	l, _ := Lines(r)
	r.Lines[0], r.Lines[1] = "x", "y"
	if !slices.Equal(l, []string{"250-a", "250 b"}) {
		t.Errorf("%q", l)
	}
	back, _ := ReadReply(l)
	l[0], l[1] = "x", "y"
	if !slices.Equal(back.Lines, []string{"a", "b"}) {
		t.Errorf("%q", back.Lines)
	}
	one, _ := ReadReply([]string{"250-a", "250 b"})
	one.Lines[0] = "z"
	l = append(make([]string, 0, 8), "250-a", "250 b")
	back, _ = ReadReply(l)
	if back.Lines[0] = "z"; l[0] != "250-a" || !slices.Equal(l[:8], []string{"250-a", "250 b", "", "", "", "", "", ""}) {
		t.Errorf("%q", l[:8])
	}
	a, _ := Lines(Reply{250, []string{"a"}})
	b, _ := Lines(Reply{250, []string{"a"}})
	if a[0] = "x"; b[0] != "250 a" {
		t.Errorf("%q", b)
	}
}

// TestAskedAgain holds that nothing is kept from call to call, of refused ones neither.
func TestAskedAgain(t *testing.T) {
	for range 3 {
		reads(t, "MAIL FROM:<a@B> SIZE=1 BODY=8BITMIME", Cmd{Verb: api.Mail, Box: addr.Box{Local: "a", Domain: "b"}, Size: 1, Eight: true})
		refused(t, "MAIL FROM:<a@B> SIZE=1 BODY=8BITMIME x", api.ErrForm)
		reads(t, "MAIL FROM:<>", Cmd{Verb: api.Mail, Size: -1})
		refused(t, "NOPE", api.ErrArg)
		mayNot(t, Cmd{Verb: api.Data, Text: "x"}, api.ErrForm)
		writes(t, Cmd{Verb: api.Data, Size: -1}, "DATA")
		tells(t, Reply{250, []string{"a", "b"}}, []string{"250-a", "250 b"})
		noReply(t, "250-a", "251 b")
		tells(t, Reply{550, []string{"no"}}, []string{"550 no"})
	}
}
