package disk

import (
	"math"
	"slices"
	"strconv"
	"strings"
	"testing"

	"posthorn/api"
)

// row is a file of a model.
type row struct{ name, data string }

// model is a disk by the chapter's words: lists of files, that are gone through from their beginning, and what is pending as a list of its own.
type model struct {
	now, sure      []row
	pending, trace []Event
	quota, fuse    int
	on, dead       bool
}

func newModel() *model {
	return &model{quota: 1 << 20}
}

func modelMay(name string) bool {
	for _, c := range []byte(name) {
		if !strings.Contains("abcdefghijklmnopqrstuvwxyz0123456789._-/", string(rune(c))) {
			return false
		}
	}
	return 1 <= len(name) && len(name) <= 80
}

func found(l []row, name string) (string, bool) {
	for _, r := range l {
		if r.name == name {
			return r.data, true
		}
	}
	return "", false
}

func without(l []row, name string) []row {
	var left []row
	for _, r := range l {
		if r.name != name {
			left = append(left, r)
		}
	}
	return left
}

func with(l []row, name, data string) []row {
	return append(without(l, name), row{name, data})
}

// redone tells files to which e is done.
func redone(l []row, e Event) []row {
	was, _ := found(l, e.Name)
	switch e.Op {
	case 1:
		return with(l, e.Name, e.Data)
	case 2:
		return with(l, e.Name, was+e.Data)
	case 3:
		if e.Name == e.To {
			return l
		}
		return with(without(l, e.Name), e.To, was)
	case 4:
		return without(l, e.Name)
	}
	return l
}

func bytesOf(l []row) int {
	n := 0
	for _, r := range l {
		n += len(r.data)
	}
	return n
}

func (m *model) has(name string) bool {
	_, is := found(m.now, name)
	return is
}

func (m *model) do(e Event) api.Errno {
	if m.on && m.fuse == 0 {
		m.dead = true
	}
	if m.dead {
		return api.ErrDown
	}
	m.fuse--
	m.now = redone(m.now, e)
	m.trace = append(m.trace, e)
	m.pending = append(m.pending, e)
	if e.Op == 5 {
		m.sure, m.pending = m.now, nil
	}
	return api.OK
}

func (m *model) Write(name, data string) api.Errno {
	switch {
	case !modelMay(name):
		return api.ErrArg
	case len(m.now) == 200 && !m.has(name):
		return api.ErrMany
	case bytesOf(with(m.now, name, data)) > m.quota:
		return api.ErrFull
	}
	return m.do(Event{1, name, "", data})
}

func (m *model) Append(name, data string) api.Errno {
	switch {
	case !m.has(name):
		return api.ErrNone
	case bytesOf(m.now)+len(data) > m.quota:
		return api.ErrFull
	}
	return m.do(Event{2, name, "", data})
}

func (m *model) Rename(name, to string) api.Errno {
	switch {
	case !m.has(name):
		return api.ErrNone
	case !modelMay(to):
		return api.ErrArg
	}
	return m.do(Event{3, name, to, ""})
}

func (m *model) Remove(name string) api.Errno {
	if !m.has(name) {
		return api.ErrNone
	}
	return m.do(Event{4, name, "", ""})
}

func (m *model) Sync() api.Errno {
	return m.do(Event{5, "", "", ""})
}

func (m *model) Quota(n int) {
	m.quota = n
	if n < 0 {
		m.quota = 0
	}
}

func (m *model) Fuse(n int) {
	if !m.dead {
		m.fuse, m.on = n, n >= 0
	}
}

func (m *model) Crash(n int) {
	for i, e := range m.pending {
		if i < n {
			m.sure = redone(m.sure, e)
		}
	}
	m.now, m.pending, m.dead, m.on = m.sure, nil, false, false
}

func (m *model) Edit(name, data string) api.Errno {
	if !m.has(name) {
		return api.ErrNone
	}
	m.now = with(m.now, name, data)
	if _, is := found(m.sure, name); is {
		m.sure = with(m.sure, name, data)
	}
	return api.OK
}

// shown tells a model's files, as files does.
func (m *model) shown() string {
	l := slices.Clone(m.now)
	slices.SortFunc(l, func(a, b row) int { return strings.Compare(a.name, b.name) })
	return joined(l)
}

// joined tells files as a text: name=data, one behind the other.
func joined(l []row) string {
	var s []string
	for _, r := range l {
		s = append(s, r.name+"="+r.data)
	}
	return strings.Join(s, " ")
}

// shown tells a disk's files as a text.
func shown(d *Disk) string {
	var l []row
	for _, name := range d.List("") {
		s, _ := d.Read(name)
		l = append(l, row{name, s})
	}
	return joined(l)
}

// doer is what disks and models have.
type doer interface {
	Write(name, data string) api.Errno
	Append(name, data string) api.Errno
	Rename(name, to string) api.Errno
	Remove(name string) api.Errno
	Sync() api.Errno
	Quota(n int)
	Fuse(n int)
	Crash(n int)
	Edit(name, data string) api.Errno
}

// step is a call, of which a text may be told.
type step struct {
	what string
	do   func(d doer) api.Errno
}

func told(parts ...string) string {
	return strings.Join(parts, " ")
}

func write1(name, data string) step {
	return step{told("write", name, data), func(d doer) api.Errno { return d.Write(name, data) }}
}

func append2(name, data string) step {
	return step{told("append", name, data), func(d doer) api.Errno { return d.Append(name, data) }}
}

func rename3(name, to string) step {
	return step{told("rename", name, to), func(d doer) api.Errno { return d.Rename(name, to) }}
}

func remove4(name string) step {
	return step{told("remove", name), func(d doer) api.Errno { return d.Remove(name) }}
}

func sync5() step {
	return step{"sync", func(d doer) api.Errno { return d.Sync() }}
}

func edit(name, data string) step {
	return step{told("edit", name, data), func(d doer) api.Errno { return d.Edit(name, data) }}
}

func quota(n int) step {
	return step{told("quota", strconv.Itoa(n)), func(d doer) api.Errno { d.Quota(n); return api.OK }}
}

func fuse(n int) step {
	return step{told("fuse", strconv.Itoa(n)), func(d doer) api.Errno { d.Fuse(n); return api.OK }}
}

func crash(n int) step {
	return step{told("crash", strconv.Itoa(n)), func(d doer) api.Errno { d.Crash(n); return api.OK }}
}

// does holds that each step tells OK.
func does(t *testing.T, d *Disk, steps ...step) {
	t.Helper()
	for i, s := range steps {
		if e := s.do(d); e != api.OK {
			t.Errorf("step %d, %s: %d", i, s.what, e)
		}
	}
}

// state is all that a disk tells, but its trace's events.
func state(d *Disk) string {
	return shown(d) + " | " + strconv.Itoa(d.Size()) + " " + strconv.Itoa(d.Pending()) + " " + strconv.FormatBool(d.Dead()) + " " + strconv.Itoa(len(d.Trace()))
}

// doesNot holds that each step tells an error, and that nothing else that is told is changed.
func doesNot(t *testing.T, d *Disk, want api.Errno, steps ...step) {
	t.Helper()
	for i, s := range steps {
		was, trace := state(d), d.Trace()
		if e := s.do(d); e != want {
			t.Errorf("step %d, %s: %d, want %d", i, s.what, e, want)
		}
		if is := state(d); is != was || !slices.Equal(d.Trace(), trace) {
			t.Errorf("step %d, %s: changed from %s to %s", i, s.what, was, is)
		}
	}
}

// holds holds a disk's files, how many bytes they have, and how many things are pending.
func holds(t *testing.T, what string, d *Disk, files string, size, pending int) {
	t.Helper()
	if s := shown(d); s != files || d.Size() != size || d.Pending() != pending {
		t.Errorf("%s: %s, %d bytes, %d pending; want %s, %d, %d", what, s, d.Size(), d.Pending(), files, size, pending)
	}
}

// traces holds a disk's trace.
func traces(t *testing.T, what string, d *Disk, want ...Event) {
	t.Helper()
	if l := d.Trace(); !slices.Equal(l, want) {
		t.Errorf("%s: %v, want %v", what, l, want)
	}
}

// made tells a disk to which steps were done.
func made(t *testing.T, steps ...step) *Disk {
	t.Helper()
	d := New()
	does(t, d, steps...)
	return d
}

// many tells a disk of n files without bytes.
func many(t *testing.T, n int) *Disk {
	t.Helper()
	d := New()
	for i := range n {
		does(t, d, write1("f"+strconv.Itoa(i), ""))
	}
	return d
}

// notNames may not be names.
var notNames = []string{"", "A", "Z", " ", "a b", "a\x00", "\xff", "a\xc3\xa9", "é", "a\n", "a:", "`", "{", "a,b", "a\\b", "~", "*", strings.Repeat("a", 81), strings.Repeat("/", 81), strings.Repeat("a", 1000)}

// P11.1

func TestExample(t *testing.T) {
	d := New()
	for i, e := range []api.Errno{d.Write("a", "x"), d.Sync(), d.Append("a", "y"), d.Rename("a", "b")} {
		if e != api.OK {
			t.Errorf("call %d: %d", i, e)
		}
	}
	d.Crash(1)
	if l := d.List(""); !slices.Equal(l, []string{"a"}) {
		t.Errorf("%v", l)
	}
	if s, e := d.Read("a"); s != "xy" || e != api.OK {
		t.Errorf("%s, %d", s, e)
	}
}

func TestNew(t *testing.T) {
	d, other := New(), New()
	if d == other {
		t.Error("two disks are one")
	}
	does(t, other, write1("a", "x"), sync5(), write1("b", ""), fuse(0))
	doesNot(t, New(), api.ErrNone, remove4("a"))
	holds(t, "new", d, "", 0, 0)
	traces(t, "new", d)
	if d.Dead() || d.List("") != nil || d.List("a") != nil {
		t.Errorf("new: %v, %v", d.Dead(), d.List(""))
	}
	d.Crash(3)
	holds(t, "crashed", d, "", 0, 0)
	does(t, d, sync5())
	holds(t, "synced", d, "", 0, 0)
	traces(t, "synced", d, Event{Op: 5})
}

// TestMaySizes holds names of all sizes about the edges, and of each kind of byte.
func TestMaySizes(t *testing.T) {
	for n := range 200 {
		for _, c := range []string{"a", "z", "m", "0", "9", ".", "_", "-", "/"} {
			if is := May(strings.Repeat(c, n)); is != (1 <= n && n <= 80) {
				t.Errorf("%d of %s: %v", n, c, is)
			}
		}
	}
	for _, n := range []int{255, 256, 256 + 1, 256 + 80, 1 << 16, 1<<16 + 1, 1 << 20} {
		if May(strings.Repeat("a", n)) {
			t.Errorf("%d bytes", n)
		}
	}
}

// TestMayBytes holds each byte at each place of names.
func TestMayBytes(t *testing.T) {
	for c := range 256 {
		want := 'a' <= c && c <= 'z' || '0' <= c && c <= '9' || c == 46 || c == 95 || c == 45 || c == 47
		for _, n := range []int{1, 2, 5, 79, 80, 81} {
			for i := range n {
				b := []byte(strings.Repeat("q", n))
				b[i] = byte(c)
				if is := May(string(b)); is != (want && n < 81) || is != modelMay(string(b)) {
					t.Errorf("byte %d at %d of %d: %v", c, i, n, is)
				}
			}
		}
	}
}

func TestMayWords(t *testing.T) {
	for _, s := range []string{"ledger", "ring", "index", "q/1.1.0", "bad/1.1.0", "tmp/99/1099511627776.9", "/", "//", "..", "../a", "-", "_", ".", "a/", "/a", "0"} {
		if !May(s) {
			t.Errorf("%q may not", s)
		}
		d := New()
		does(t, d, write1(s, s), rename3(s, "a"), rename3("a", s), append2(s, "x"), edit(s, s), remove4(s))
	}
	for _, s := range notNames {
		if May(s) {
			t.Errorf("%q may", s)
		}
	}
}

func TestWrite(t *testing.T) {
	d := New()
	does(t, d, write1("b", "12"))
	holds(t, "a first one", d, "b=12", 2, 1)
	does(t, d, write1("a", ""))
	holds(t, "one of no byte", d, "a= b=12", 2, 2)
	does(t, d, write1("b", "345"))
	holds(t, "anew", d, "a= b=345", 3, 3)
	does(t, d, write1("b", ""))
	holds(t, "anew, of no byte", d, "a= b=", 0, 4)
	does(t, d, write1("b", ""))
	holds(t, "the same", d, "a= b=", 0, 5)
	every := ""
	for c := range 256 {
		every += string([]byte{byte(c)})
	}
	does(t, d, write1("c/d", every))
	holds(t, "of each byte", d, "a= b= c/d="+every, 256, 6)
	traces(t, "written", d, Event{1, "b", "", "12"}, Event{1, "a", "", ""}, Event{1, "b", "", "345"}, Event{1, "b", "", ""}, Event{1, "b", "", ""}, Event{1, "c/d", "", every})
}

func TestWriteWrong(t *testing.T) {
	for _, d := range []*Disk{New(), made(t, write1("a", "x"), sync5(), write1("b", "")), many(t, 200)} {
		for _, name := range notNames {
			doesNot(t, d, api.ErrArg, write1(name, ""), write1(name, "x"), write1(name, strings.Repeat("x", 1<<20+1)))
		}
	}
}

func TestMany(t *testing.T) {
	d := many(t, 199)
	does(t, d, sync5())
	if n := len(d.List("")); n != 199 || d.Pending() != 0 {
		t.Errorf("%d files, %d pending", n, d.Pending())
	}
	does(t, d, write1("f199", "x"))
	doesNot(t, d, api.ErrMany, write1("f200", ""), write1("a", ""), write1("zz", "x"))
	does(t, d, write1("f199", "yy"), write1("f0", ""), write1("f7", "z"), append2("f8", "a"), rename3("f1", "f1"))
	if n := len(d.List("")); n != 200 || d.Size() != 4 {
		t.Errorf("%d files, %d bytes", n, d.Size())
	}
	does(t, d, rename3("f2", "x"))
	doesNot(t, d, api.ErrMany, write1("f2", ""))
	does(t, d, rename3("x", "f3"))
	if n := len(d.List("")); n != 199 {
		t.Errorf("%d files", n)
	}
	does(t, d, write1("f2", ""))
	doesNot(t, d, api.ErrMany, write1("x", ""))
	does(t, d, remove4("f0"), write1("x", ""))
	doesNot(t, d, api.ErrMany, write1("f0", ""))
	d.Crash(0)
	if n := len(d.List("")); n != 199 {
		t.Errorf("%d files", n)
	}
	does(t, d, write1("y", ""))
	doesNot(t, d, api.ErrMany, write1("z", ""))
}

// TestManyNoMore holds that there may be other 200 files when all went.
func TestManyNoMore(t *testing.T) {
	d := many(t, 200)
	doesNot(t, d, api.ErrMany, write1("g0", ""))
	for i := range 200 {
		does(t, d, remove4("f"+strconv.Itoa(i)), write1("g"+strconv.Itoa(i), ""))
		doesNot(t, d, api.ErrMany, write1("h", ""))
	}
	if l := d.List("g"); len(l) != 200 || len(d.List("")) != 200 {
		t.Errorf("%d files", len(l))
	}
}

func TestAppend(t *testing.T) {
	d := made(t, write1("a", "x"), write1("b", ""))
	does(t, d, append2("a", "yz"), append2("a", ""), append2("b", "\x00\xff"), append2("b", "\r\n"))
	holds(t, "behind", d, "a=xyz b=\x00\xff\r\n", 7, 6)
	traces(t, "behind", d, Event{1, "a", "", "x"}, Event{1, "b", "", ""}, Event{2, "a", "", "yz"}, Event{2, "a", "", ""}, Event{2, "b", "", "\x00\xff"}, Event{2, "b", "", "\r\n"})
	doesNot(t, d, api.ErrNone, append2("c", ""), append2("c", "x"), append2("", "x"), append2("A", "x"), append2("a/", ""), append2("a ", "x"), append2(strings.Repeat("a", 81), "x"))
	does(t, d, remove4("b"))
	doesNot(t, d, api.ErrNone, append2("b", "x"))
	holds(t, "one gone", d, "a=xyz", 3, 7)
}

func TestRename(t *testing.T) {
	d := made(t, write1("a", "1"), write1("b", "22"))
	does(t, d, rename3("a", "c"))
	holds(t, "a new name", d, "b=22 c=1", 3, 3)
	does(t, d, rename3("c", "b"))
	holds(t, "another one's name", d, "b=1", 1, 4)
	does(t, d, rename3("b", "b"), rename3("b", "b"))
	holds(t, "the same name", d, "b=1", 1, 6)
	longest := strings.Repeat("z", 80)
	does(t, d, rename3("b", longest))
	holds(t, "a name of 80 bytes", d, longest+"=1", 1, 7)
	traces(t, "renamed", d, Event{1, "a", "", "1"}, Event{1, "b", "", "22"}, Event{3, "a", "c", ""}, Event{3, "c", "b", ""}, Event{3, "b", "b", ""}, Event{3, "b", "b", ""}, Event{3, "b", longest, ""})
}

func TestRenameWrong(t *testing.T) {
	d := made(t, write1("a", "1"), sync5(), write1("b", "22"))
	for _, name := range notNames {
		doesNot(t, d, api.ErrArg, rename3("a", name), rename3("b", name))
		doesNot(t, d, api.ErrNone, rename3(name, "a"), rename3(name, "c"), rename3(name, name), rename3("c", name))
	}
	doesNot(t, d, api.ErrNone, rename3("c", "a"), rename3("c", "c"), rename3("c", "d"))
	does(t, d, rename3("a", "c"))
	doesNot(t, d, api.ErrNone, rename3("a", "c"), rename3("a", "a"))
}

func TestRemove(t *testing.T) {
	d := made(t, write1("a", "1"), write1("b", "22"), write1("c", ""))
	does(t, d, remove4("b"))
	holds(t, "one", d, "a=1 c=", 1, 4)
	doesNot(t, d, api.ErrNone, remove4("b"), remove4("d"), remove4(""), remove4("A"), remove4(strings.Repeat("a", 81)))
	does(t, d, remove4("c"), remove4("a"))
	holds(t, "all", d, "", 0, 6)
	doesNot(t, d, api.ErrNone, remove4("a"))
	does(t, d, write1("b", "3"))
	holds(t, "one again", d, "b=3", 1, 7)
	traces(t, "removed", d, Event{1, "a", "", "1"}, Event{1, "b", "", "22"}, Event{1, "c", "", ""}, Event{4, "b", "", ""}, Event{4, "c", "", ""}, Event{4, "a", "", ""}, Event{1, "b", "", "3"})
}

func TestSync(t *testing.T) {
	d := made(t, write1("a", "1"), append2("a", "2"), write1("b", ""), sync5())
	holds(t, "synced", d, "a=12 b=", 2, 0)
	does(t, d, sync5(), sync5())
	holds(t, "synced, of nothing", d, "a=12 b=", 2, 0)
	does(t, d, remove4("b"), rename3("a", "c"), sync5(), append2("c", "3"))
	holds(t, "another", d, "c=123", 3, 1)
	d.Crash(0)
	holds(t, "crashed", d, "c=12", 2, 0)
	traces(t, "synced", d, Event{1, "a", "", "1"}, Event{2, "a", "", "2"}, Event{1, "b", "", ""}, Event{Op: 5}, Event{Op: 5}, Event{Op: 5}, Event{4, "b", "", ""}, Event{3, "a", "c", ""}, Event{Op: 5}, Event{2, "c", "", "3"})
}

// TestFirstQuota holds that a disk has room for 2^20 bytes at first, and no more.
func TestFirstQuota(t *testing.T) {
	full := strings.Repeat("x", 1<<20)
	d := New()
	doesNot(t, d, api.ErrFull, write1("a", full+"y"))
	does(t, d, write1("a", full))
	doesNot(t, d, api.ErrFull, append2("a", "y"), write1("b", "y"), write1("a", full+"y"))
	does(t, d, append2("a", ""), write1("b", ""), write1("a", full[1:]))
	doesNot(t, d, api.ErrFull, append2("a", "yz"), write1("b", "yz"), append2("b", full))
	does(t, d, append2("b", "y"))
	doesNot(t, d, api.ErrFull, append2("b", "y"), append2("a", "y"), write1("c", "y"))
	does(t, d, remove4("b"), write1("c", "y"))
	if d.Size() != 1<<20 {
		t.Errorf("%d bytes", d.Size())
	}
	d.Quota(1 << 20)
	doesNot(t, d, api.ErrFull, append2("c", "y"))
	d.Quota(1<<20 + 1)
	does(t, d, append2("c", "y"))
	doesNot(t, d, api.ErrFull, append2("c", "y"))
}

// TestQuota has files of just the quota, of one byte more, and of one fewer, in each way to come there.
func TestQuota(t *testing.T) {
	for q := range 12 {
		for held := range q + 1 {
			for n := range 15 {
				want := api.OK
				if held+n > q {
					want = api.ErrFull
				}
				data := strings.Repeat("y", n)
				for _, s := range []step{write1("b", data), append2("a", data), write1("a", strings.Repeat("x", held)+data)} {
					d := made(t, write1("a", strings.Repeat("x", held)), quota(q))
					if want == api.OK {
						does(t, d, s)
					} else {
						doesNot(t, d, want, s)
					}
				}
			}
		}
	}
}

// TestQuotaBelow has a quota below what is there already.
func TestQuotaBelow(t *testing.T) {
	d := made(t, write1("a", "1234"), write1("b", "56"), sync5(), quota(3))
	holds(t, "as it was", d, "a=1234 b=56", 6, 0)
	doesNot(t, d, api.ErrFull, append2("a", ""), append2("b", ""), write1("c", ""), write1("b", ""), write1("a", "12"), write1("a", "1234"))
	does(t, d, rename3("b", "c"), sync5(), edit("c", "5678"), rename3("a", "a"))
	doesNot(t, d, api.ErrFull, append2("c", ""), write1("a", ""), write1("c", ""))
	does(t, d, remove4("a"))
	doesNot(t, d, api.ErrFull, append2("c", ""), write1("a", ""), write1("c", "5678"))
	does(t, d, write1("c", "567"), append2("c", ""), write1("a", ""), write1("e", ""))
	doesNot(t, d, api.ErrFull, append2("a", "1"), write1("e", "1"), write1("c", "5678"))
	does(t, d, remove4("c"), write1("a", "123"))
	holds(t, "just the quota", d, "a=123 e=", 3, 8)
	d.Crash(0)
	holds(t, "crashed", d, "a=1234 c=5678", 8, 0)
	doesNot(t, d, api.ErrFull, append2("a", ""), write1("a", ""))
	does(t, d, remove4("a"), write1("c", "12"), append2("c", "3"))
	doesNot(t, d, api.ErrFull, append2("c", "4"))
}

func TestQuotas(t *testing.T) {
	for _, q := range []int{0, -1, -2, -1 << 20, math.MinInt, math.MinInt + 1} {
		d := made(t, quota(q), write1("a", ""), append2("a", ""), write1("a", ""))
		doesNot(t, d, api.ErrFull, write1("a", "x"), append2("a", "x"), write1("b", "x"))
		does(t, d, write1("b", ""), rename3("a", "b"), sync5(), edit("b", "xyz"), remove4("b"), quota(2), write1("b", "xy"))
		doesNot(t, d, api.ErrFull, append2("b", "z"))
		holds(t, "two bytes", d, "b=xy", 2, 2)
	}
	for _, q := range []int{1 << 21, 1 << 31, 1 << 40, math.MaxInt - 1, math.MaxInt} {
		much := strings.Repeat("x", 1<<20)
		d := made(t, quota(q), write1("a", much), append2("a", much), write1("a", much+much))
		if d.Size() != 1<<21 {
			t.Errorf("%d: %d bytes", q, d.Size())
		}
		does(t, d, quota(1<<20))
		doesNot(t, d, api.ErrFull, append2("a", ""))
	}
}

// fiveSteps has one of each thing that is done, of which a disk of the files a and b takes each.
func fiveSteps() []step {
	return []step{write1("c", "x"), append2("a", "y"), rename3("b", "d"), remove4("b"), sync5()}
}

func TestFuse(t *testing.T) {
	for _, n := range []int{0, 1, 2, 3, 7, 50} {
		for _, s := range fiveSteps() {
			d := made(t, write1("a", "1"), sync5(), write1("b", "2"), fuse(n))
			for i := range n {
				does(t, d, write1("b", strconv.Itoa(i)))
			}
			if d.Dead() {
				t.Errorf("%d: dead ahead of %s", n, s.what)
			}
			was, trace := shown(d), d.Trace()
			if e := s.do(d); e != api.ErrDown || !d.Dead() {
				t.Errorf("%d: %s: %d, %v", n, s.what, e, d.Dead())
			}
			if is := shown(d); is != was || d.Pending() != n+1 || !slices.Equal(d.Trace(), trace) {
				t.Errorf("%d: %s: from %s to %s, %d pending", n, s.what, was, is, d.Pending())
			}
			doesNot(t, d, api.ErrDown, fiveSteps()...)
		}
	}
}

// TestFuseOfEach holds that each thing that is done takes one from the fuse.
func TestFuseOfEach(t *testing.T) {
	for _, s := range fiveSteps() {
		d := made(t, write1("a", "1"), write1("b", "2"), fuse(1), s)
		if d.Dead() {
			t.Errorf("%s: dead", s.what)
		}
		if e := d.Append("a", "x"); e != api.ErrDown || !d.Dead() {
			t.Errorf("%s: %d, %v", s.what, e, d.Dead())
		}
		d = made(t, write1("a", "1"), write1("b", "2"), fuse(2), s, append2("a", "z"))
		if e := d.Sync(); e != api.ErrDown || !d.Dead() {
			t.Errorf("%s: %d, %v", s.what, e, d.Dead())
		}
	}
	d := made(t, write1("a", "1"), fuse(3), rename3("a", "a"), append2("a", ""), write1("a", "1"))
	if e := d.Rename("a", "a"); e != api.ErrDown || !d.Dead() {
		t.Errorf("things that change nothing: %d, %v", e, d.Dead())
	}
}

// TestFuseNotBurnt holds that nothing is burnt where an error stands ahead, nor by what isn't done to a disk.
func TestFuseNotBurnt(t *testing.T) {
	for _, n := range []int{0, 1, 2} {
		d := many(t, 200)
		does(t, d, write1("f0", "12"), quota(2), fuse(n))
		for range 5 {
			doesNot(t, d, api.ErrArg, write1("A", ""), rename3("f0", "A"))
			doesNot(t, d, api.ErrMany, write1("a", ""))
			doesNot(t, d, api.ErrFull, write1("f0", "123"), append2("f0", "3"), write1("f1", "x"))
			doesNot(t, d, api.ErrNone, append2("a", ""), rename3("a", "b"), remove4("a"), edit("a", ""))
			does(t, d, edit("f1", ""), quota(2))
			d.Read("f0")
			d.List("")
			d.Trace()
		}
		for range n {
			does(t, d, sync5())
		}
		if d.Dead() {
			t.Errorf("%d: dead", n)
		}
		if e := d.Sync(); e != api.ErrDown || !d.Dead() {
			t.Errorf("%d: %d, %v", n, e, d.Dead())
		}
	}
}

func TestFuseSetAnew(t *testing.T) {
	d := made(t, fuse(0), fuse(2), write1("a", ""), fuse(1), append2("a", "x"), fuse(0))
	if d.Dead() {
		t.Error("dead of a fuse that is set")
	}
	for _, off := range []int{-1, -2, -1 << 40, math.MinInt} {
		does(t, d, fuse(0), fuse(off))
		for range 20 {
			does(t, d, append2("a", "y"))
		}
	}
	does(t, d, fuse(math.MaxInt), append2("a", "z"), fuse(0))
	if e := d.Remove("a"); e != api.ErrDown || !d.Dead() {
		t.Errorf("%d, %v", e, d.Dead())
	}
}

// dead tells a disk that is dead, whose file a is sure, and b isn't.
func dead(t *testing.T) *Disk {
	t.Helper()
	d := made(t, write1("a", "1"), sync5(), append2("a", "2"), write1("b", "3"), fuse(0))
	if e := d.Sync(); e != api.ErrDown || !d.Dead() {
		t.Errorf("%d, %v", e, d.Dead())
	}
	return d
}

func TestFuseOfADeadDisk(t *testing.T) {
	for _, n := range []int{-1, 0, 1, 5, math.MaxInt, math.MinInt} {
		d := dead(t)
		d.Fuse(n)
		doesNot(t, d, api.ErrDown, fiveSteps()...)
		holds(t, "dead", d, "a=12 b=3", 3, 2)
		if !d.Dead() {
			t.Errorf("%d: not dead", n)
		}
		d.Crash(2)
		if d.Dead() {
			t.Errorf("%d: dead", n)
		}
		for range 10 {
			does(t, d, append2("a", "x"))
		}
	}
}

// TestDead holds what a dead disk tells, and which errors stand ahead.
func TestDead(t *testing.T) {
	d := dead(t)
	holds(t, "dead", d, "a=12 b=3", 3, 2)
	if l := d.List("b"); !slices.Equal(l, []string{"b"}) {
		t.Errorf("%v", l)
	}
	doesNot(t, d, api.ErrArg, write1("A", "x"), rename3("a", "A"))
	doesNot(t, d, api.ErrNone, append2("c", "x"), rename3("c", "A"), remove4("c"), edit("c", ""))
	d.Quota(3)
	doesNot(t, d, api.ErrFull, write1("c", "x"), append2("a", "x"), write1("a", "123"))
	doesNot(t, d, api.ErrDown, write1("c", ""), append2("a", ""), write1("a", "12"))
	d.Crash(0)
	doesNot(t, d, api.ErrFull, write1("a", "1234"))
	does(t, d, write1("a", "123"))
	full := many(t, 200)
	does(t, full, fuse(0))
	full.Sync()
	doesNot(t, full, api.ErrMany, write1("a", "x"))
	doesNot(t, full, api.ErrDown, write1("f0", "x"))
}

// TestOrder has several errors at once.
func TestOrder(t *testing.T) {
	d := many(t, 200)
	does(t, d, quota(0), fuse(0))
	doesNot(t, d, api.ErrArg, write1("", "x"), write1("A", "x"), rename3("f0", "A"))
	doesNot(t, d, api.ErrMany, write1("a", "x"), write1("a", ""))
	doesNot(t, d, api.ErrFull, write1("f0", "x"), append2("f0", "x"))
	doesNot(t, d, api.ErrNone, append2("a", "x"), rename3("a", "A"), rename3("", ""), remove4("a"), append2("", "x"), edit("A", "x"))
	if d.Dead() {
		t.Error("dead")
	}
	if e := d.Rename("f0", "f0"); e != api.ErrDown || !d.Dead() {
		t.Errorf("%d, %v", e, d.Dead())
	}
	doesNot(t, d, api.ErrArg, write1("", "x"), write1("A", "x"), rename3("f0", "A"))
	doesNot(t, d, api.ErrMany, write1("a", "x"), write1("a", ""))
	doesNot(t, d, api.ErrFull, write1("f0", "x"), append2("f0", "x"))
	doesNot(t, d, api.ErrNone, append2("a", "x"), rename3("a", "A"), remove4("a"))
	doesNot(t, d, api.ErrDown, write1("f0", ""), append2("f0", ""), rename3("f0", "a"), remove4("f0"), sync5())
}

// P11.2

func TestRead(t *testing.T) {
	d := made(t, write1("a", "x\x00y"), write1("b", ""))
	for _, c := range []struct {
		name, want string
		e          api.Errno
	}{{"a", "x\x00y", api.OK}, {"b", "", api.OK}, {"c", "", api.ErrNone}, {"", "", api.ErrNone}, {"A", "", api.ErrNone}, {"a/", "", api.ErrNone}, {strings.Repeat("a", 81), "", api.ErrNone}} {
		if s, e := d.Read(c.name); s != c.want || e != c.e {
			t.Errorf("%q: %q, %d", c.name, s, e)
		}
	}
	does(t, d, remove4("a"), rename3("b", "c"))
	for _, name := range []string{"a", "b"} {
		if s, e := d.Read(name); s != "" || e != api.ErrNone {
			t.Errorf("%s, gone: %q, %d", name, s, e)
		}
	}
	holds(t, "read", d, "c=", 0, 4)
}

func TestList(t *testing.T) {
	d := New()
	for _, name := range []string{"q/10", "q/2", "q", "q.", "q/", "b", "a", "bad/1", "-", "0", "z", "_", "/", "qa", "q0", "q-"} {
		does(t, d, write1(name, "x"))
	}
	for _, c := range []struct {
		prefix string
		want   []string
	}{
		{"", []string{"-", "/", "0", "_", "a", "b", "bad/1", "q", "q-", "q.", "q/", "q/10", "q/2", "q0", "qa", "z"}},
		{"q", []string{"q", "q-", "q.", "q/", "q/10", "q/2", "q0", "qa"}},
		{"q/", []string{"q/", "q/10", "q/2"}},
		{"q/1", []string{"q/10"}},
		{"q/10", []string{"q/10"}},
		{"bad/1", []string{"bad/1"}},
		{"b", []string{"b", "bad/1"}},
		{"z", []string{"z"}},
		{"/", []string{"/"}},
		{"q/100", nil}, {"1", nil}, {"/1", nil}, {"ad", nil}, {"bad/1/", nil}, {"c", nil}, {"/q", nil}, {"Q", nil}, {" ", nil}, {"\xff", nil}, {strings.Repeat("q", 200), nil},
	} {
		if l := d.List(c.prefix); !slices.Equal(l, c.want) || (c.want == nil) != (l == nil) {
			t.Errorf("%q: %q, want %q", c.prefix, l, c.want)
		}
	}
	does(t, d, remove4("q/2"), rename3("q/10", "a"))
	if l := d.List("q/"); !slices.Equal(l, []string{"q/"}) {
		t.Errorf("%q", l)
	}
}

// TestListRises lists as many files as there may be, written in another order.
func TestListRises(t *testing.T) {
	d := New()
	var want []string
	for i := range 200 {
		name := strconv.Itoa(i * 77 % 200)
		want = append(want, name)
		does(t, d, write1(name, ""))
	}
	slices.Sort(want)
	if l := d.List(""); !slices.Equal(l, want) {
		t.Errorf("%q", l)
	}
}

// TestSizeAndPending has what they tell behind each thing.
func TestSizeAndPending(t *testing.T) {
	d := New()
	for i, c := range []struct {
		s             step
		size, pending int
		done          int
	}{
		{write1("a", "123"), 3, 1, 1},
		{append2("a", "45"), 5, 2, 2},
		{append2("a", ""), 5, 3, 3},
		{write1("b", "6"), 6, 4, 4},
		{rename3("a", "a"), 6, 5, 5},
		{rename3("a", "b"), 5, 6, 6},
		{sync5(), 5, 0, 7},
		{edit("b", "x"), 1, 0, 7},
		{write1("b", ""), 0, 1, 8},
		{edit("b", "xyz"), 3, 1, 8},
		{quota(1), 3, 1, 8},
		{fuse(9), 3, 1, 8},
		{remove4("b"), 0, 2, 9},
		{write1("c", "7"), 1, 3, 10},
		{crash(1), 0, 0, 10},
		{sync5(), 0, 0, 11},
		{append2("b", "8"), 1, 1, 12},
		{crash(-1), 0, 0, 12},
		{crash(5), 0, 0, 12},
	} {
		does(t, d, c.s)
		if d.Size() != c.size || d.Pending() != c.pending || len(d.Trace()) != c.done {
			t.Errorf("step %d, %s: %d bytes, %d pending, %d done; want %d, %d, %d", i, c.s.what, d.Size(), d.Pending(), len(d.Trace()), c.size, c.pending, c.done)
		}
	}
}

// TestTrace has what a trace has over syncs, crashes and edits, and what isn't in it.
func TestTrace(t *testing.T) {
	d := made(t, write1("a", "1"), edit("a", "2"), sync5(), append2("a", "3"), crash(0), append2("a", "4"), sync5())
	doesNot(t, d, api.ErrNone, append2("b", ""), remove4("b"), rename3("b", "c"), edit("b", ""))
	doesNot(t, d, api.ErrArg, write1("B", ""), rename3("a", "B"))
	does(t, d, quota(2), fuse(3), crash(4), fuse(1), rename3("a", "b"))
	doesNot(t, d, api.ErrFull, append2("b", "5"))
	d.Sync()
	doesNot(t, d, api.ErrDown, sync5())
	does(t, d, edit("b", ""), crash(1), remove4("b"))
	traces(t, "all", d, Event{1, "a", "", "1"}, Event{Op: 5}, Event{2, "a", "", "3"}, Event{2, "a", "", "4"}, Event{Op: 5}, Event{3, "a", "b", ""}, Event{4, "b", "", ""})
}

// TestAnswersChanged holds that an answer that is changed changes no disk, and that none is changed by what is done.
func TestAnswersChanged(t *testing.T) {
	d := made(t, write1("a", "1"), write1("b", "2"), sync5(), append2("a", "3"), rename3("b", "c"))
	trace, names := d.Trace(), d.List("")
	wantTrace, wantNames := slices.Clone(trace), slices.Clone(names)
	does(t, d, write1("d", ""), remove4("a"))
	if !slices.Equal(trace, wantTrace) || !slices.Equal(names, wantNames) {
		t.Errorf("%v, %v", trace, names)
	}
	d = made(t, write1("a", "1"), write1("b", "2"), sync5(), append2("a", "3"), rename3("b", "c"))
	for range 3 {
		trace, names = d.Trace(), d.List("")
		other := append(d.Trace(), Event{Op: 1, Name: "x"})
		_ = append(d.Trace()[:1], Event{Op: 4, Name: "y"})
		_ = append(d.List("a"), "z")
		for i := range trace {
			trace[i] = Event{4, "a", "b", "x"}
		}
		clear(names)
		clear(other)
		traces(t, "changed", d, wantTrace...)
		holds(t, "changed", d, "a=13 c=2", 3, 2)
	}
	d.Crash(1)
	holds(t, "crashed", d, "a=13 b=2", 3, 0)
	traces(t, "crashed", d, wantTrace...)
	one, two := d.Trace(), d.Trace()
	one[0].Name, one = "x", append(one[:1], one...)
	if !slices.Equal(two, wantTrace) {
		t.Errorf("%v", two)
	}
}

// P11.3

func TestCrash(t *testing.T) {
	for _, c := range []struct {
		n    int
		want string
		size int
	}{
		{math.MinInt, "a=23 b=1", 3}, {-1, "a=23 b=1", 3}, {0, "a=23 b=1", 3},
		{1, "a=4 b=1", 2}, {2, "a=4 b=1 z=", 2}, {3, "a=4 c=1 z=", 2}, {4, "a=4 c=1 z=", 2},
		{5, "a=1 z=", 1}, {6, "a=1x z=", 2}, {7, "a=1x", 2}, {8, "z=1x", 2}, {9, "z=1x", 2}, {1000, "z=1x", 2}, {math.MaxInt, "z=1x", 2},
	} {
		d := made(t, write1("b", "1"), write1("a", "23"), sync5())
		does(t, d, write1("a", "4"), write1("z", ""), rename3("b", "c"), rename3("c", "c"), rename3("c", "a"), append2("a", "x"), remove4("z"), rename3("a", "z"))
		trace := d.Trace()
		d.Crash(c.n)
		holds(t, "crashed, kept "+strconv.Itoa(c.n), d, c.want, c.size, 0)
		for _, again := range []int{8, 0, -1} {
			d.Crash(again)
			holds(t, "crashed again", d, c.want, c.size, 0)
		}
		traces(t, "crashed", d, trace...)
		does(t, d, write1("a", "56"), crash(0))
		holds(t, "crashed behind another", d, c.want, c.size, 0)
		does(t, d, write1("z", "56"), write1("y", ""), crash(1), remove4("z"), crash(0))
		if s, e := d.Read("z"); s != "56" || e != api.OK {
			t.Errorf("kept %d: %q, %d", c.n, s, e)
		}
	}
}

// TestCrashOff holds that a crash makes a dead disk alive, and that the fuse is off behind it; the quota stays.
func TestCrashOff(t *testing.T) {
	for _, c := range []struct {
		n    int
		want string
		size int
	}{{-1, "a=1", 1}, {0, "a=1", 1}, {1, "a=12", 2}, {2, "a=12 b=3", 3}, {3, "a=12 b=3", 3}} {
		d := dead(t)
		d.Quota(5)
		d.Crash(c.n)
		holds(t, "of a dead disk", d, c.want, c.size, 0)
		if d.Dead() {
			t.Errorf("%d: dead", c.n)
		}
		doesNot(t, d, api.ErrFull, append2("a", strings.Repeat("x", 6-c.size)))
		does(t, d, append2("a", strings.Repeat("x", 5-c.size)))
		for range 100 {
			does(t, d, sync5())
		}
		d.Fuse(2)
		d.Crash(c.n)
		for range 10 {
			does(t, d, rename3("a", "a"))
		}
		d.Fuse(0)
		d.Crash(0)
		does(t, d, remove4("a"))
	}
}

// TestCrashWhileDying holds that what wasn't done, for the disk was dead, isn't pending.
func TestCrashWhileDying(t *testing.T) {
	d := made(t, write1("a", "1"), sync5(), fuse(1), append2("a", "2"))
	for _, s := range []step{append2("a", "3"), remove4("a"), write1("b", ""), rename3("a", "c"), sync5()} {
		doesNot(t, dead(t), api.ErrDown, s)
		if e := s.do(d); e != api.ErrDown {
			t.Errorf("%s: %d", s.what, e)
		}
	}
	holds(t, "dead", d, "a=12", 2, 1)
	d.Crash(10)
	holds(t, "crashed", d, "a=12", 2, 0)
}

func TestEdit(t *testing.T) {
	for _, c := range []struct {
		what  string
		steps []step
		now   string
		kept  []string // by the first crashes
	}{
		{"a sure one", []step{write1("a", "1"), sync5(), edit("a", "x")}, "a=x", []string{"a=x", "a=x"}},
		{"one that isn't sure", []step{write1("a", "1"), edit("a", "x")}, "a=x", []string{"", "a=1", "a=1"}},
		{"sure, and more behind", []step{write1("a", "1"), sync5(), append2("a", "2"), edit("a", "x")}, "a=x", []string{"a=x", "a=x2"}},
		{"sure, and more behind it", []step{write1("a", "1"), sync5(), edit("a", "x"), append2("a", "2")}, "a=x2", []string{"a=x", "a=x2"}},
		{"sure, and written anew", []step{write1("a", "1"), sync5(), write1("a", "2"), edit("a", "x")}, "a=x", []string{"a=x", "a=2"}},
		{"sure by another name", []step{write1("a", "1"), sync5(), rename3("a", "b"), edit("b", "x")}, "b=x", []string{"a=1", "b=1"}},
		{"another one's sure name", []step{write1("a", "1"), write1("b", "2"), sync5(), rename3("a", "b"), edit("b", "x")}, "b=x", []string{"a=1 b=x", "b=1"}},
		{"gone, and written again", []step{write1("a", "1"), sync5(), remove4("a"), write1("a", "2"), edit("a", "x")}, "a=x", []string{"a=x", "", "a=2"}},
		{"of two one", []step{write1("a", "1"), write1("b", "2"), sync5(), edit("b", "x"), write1("b", "3")}, "a=1 b=3", []string{"a=1 b=x", "a=1 b=3"}},
		{"twice", []step{write1("a", "1"), sync5(), edit("a", "x"), edit("a", "")}, "a=", []string{"a=", "a="}},
		{"synced behind", []step{write1("a", "1"), edit("a", "x"), sync5(), append2("a", "2")}, "a=x2", []string{"a=x", "a=x2"}},
		{"renamed and synced behind", []step{write1("a", "1"), sync5(), append2("a", "2"), edit("a", "x"), rename3("a", "b"), sync5()}, "b=x", []string{"b=x", "b=x"}},
		{"crashed behind", []step{write1("a", "1"), sync5(), write1("b", "2"), edit("b", "x"), edit("a", "y"), crash(1)}, "a=y b=2", []string{"a=y b=2"}},
		{"renamed behind", []step{write1("a", "1"), sync5(), edit("a", "x"), rename3("a", "b")}, "b=x", []string{"a=x", "b=x"}},
	} {
		for n, want := range c.kept {
			d := New()
			done := 0
			for _, s := range c.steps {
				was, pending := len(d.Trace()), d.Pending()
				does(t, d, s)
				if strings.HasPrefix(s.what, "edit") && (len(d.Trace()) != was || d.Pending() != pending) {
					t.Errorf("%s: %s: %d pending, %v", c.what, s.what, d.Pending(), d.Trace())
				}
				if !strings.HasPrefix(s.what, "edit") && !strings.HasPrefix(s.what, "crash") {
					done++
				}
			}
			if s := shown(d); s != c.now || len(d.Trace()) != done {
				t.Errorf("%s: %s, %d done", c.what, s, len(d.Trace()))
			}
			d.Crash(n)
			if s := shown(d); s != want || d.Pending() != 0 || len(d.Trace()) != done {
				t.Errorf("%s: kept %d: %s, want %s", c.what, n, s, want)
			}
		}
	}
}

func TestEditWrong(t *testing.T) {
	d := made(t, write1("a", "1"), write1("b", "2"), sync5(), remove4("b"))
	doesNot(t, d, api.ErrNone, edit("b", ""), edit("b", "x"), edit("c", "x"), edit("", "x"), edit("A", "x"), edit(strings.Repeat("a", 81), "x"))
	d.Crash(0)
	holds(t, "crashed", d, "a=1 b=2", 2, 0)
}

// TestEditBurnsNothing edits beyond the quota, and a disk that is dead, or dies of the next thing.
func TestEditBurnsNothing(t *testing.T) {
	d := dead(t)
	does(t, d, quota(0), edit("a", "xyz"), edit("b", "uvw"))
	holds(t, "dead", d, "a=xyz b=uvw", 6, 2)
	if !d.Dead() {
		t.Error("not dead")
	}
	d.Crash(1)
	holds(t, "crashed", d, "a=xyz2", 4, 0)
	does(t, d, fuse(1), edit("a", ""), edit("a", "x"), rename3("a", "b"), edit("b", "y"))
	if d.Dead() {
		t.Error("dead")
	}
	if e := d.Sync(); e != api.ErrDown {
		t.Errorf("%d", e)
	}
	does(t, d, edit("b", "z"))
	d.Crash(0)
	holds(t, "crashed again", d, "a=x", 1, 0)
}

// P11.4

// draws tells numbers that look like chance, others of another seed, and the same in each run.
type draws uint64

func (x *draws) of(n int) int {
	*x = *x*6364136223846793005 + 1442695040888963407
	return int(uint64(*x)>>33) % n
}

// someNames are those of which steps are drawn; of the last ones none may be.
var someNames = []string{"a", "b", "q/1.1.0", "q/1.1.1", "index", "new/2/7.0", "-", strings.Repeat("z", 80), "A", ""}

var someData = []string{"", "x", "yz", "\r\n", "0123456789", strings.Repeat("p", 40)}

// drawn draws a step: of a kind below 5 it is done to the disk; of 5 and above it is an edit, a quota, a fuse or a crash.
func (x *draws) drawn(kinds int) step {
	name, to := someNames[x.of(len(someNames))], someNames[x.of(len(someNames))]
	data := someData[x.of(len(someData))]
	switch x.of(kinds) {
	case 0:
		return write1(name, data)
	case 1:
		return append2(name, data)
	case 2:
		return rename3(name, to)
	case 3:
		return remove4(name)
	case 4:
		if x.of(3) > 0 {
			return write1(to, data)
		}
		return sync5()
	case 5:
		return edit(name, data)
	case 6:
		if x.of(2) > 0 {
			return quota(1 << 20)
		}
		return quota(x.of(150) - 5)
	case 7:
		return fuse(x.of(12) - 4)
	}
	return crash(x.of(8) - 1)
}

// like holds all that a disk tells against a model's.
func like(t *testing.T, what string, d *Disk, m *model) bool {
	t.Helper()
	if shown(d) == m.shown() && d.Size() == bytesOf(m.now) && d.Pending() == len(m.pending) && d.Dead() == m.dead && slices.Equal(d.Trace(), m.trace) {
		return true
	}
	t.Errorf("%s: %s %d %d %v %v; the model: %s %d %d %v %v", what, shown(d), d.Size(), d.Pending(), d.Dead(), d.Trace(), m.shown(), bytesOf(m.now), len(m.pending), m.dead, m.trace)
	return false
}

// TestDrawn holds drawn scripts against the model.
func TestDrawn(t *testing.T) {
	for seed := range 400 {
		x := draws(seed)
		d, m := New(), newModel()
		var script []string
		for range 150 {
			s := x.drawn(10)
			script = append(script, s.what)
			if e, want := s.do(d), s.do(m); e != want {
				t.Fatalf("seed %d: %q: %d, want %d", seed, script, e, want)
			}
			if !like(t, strings.Join(script, "; "), d, m) {
				return
			}
			for _, name := range someNames {
				was, is := found(m.now, name)
				if s, e := d.Read(name); s != was || (e == api.OK) != is {
					t.Fatalf("seed %d: %q: %q, %d", seed, name, s, e)
				}
			}
		}
	}
}

// TestShort holds all scripts of four steps of a few against the model.
func TestShort(t *testing.T) {
	steps := []step{write1("a", "x"), write1("b", ""), append2("a", "y"), rename3("a", "b"), rename3("b", "a"), rename3("a", "a"), remove4("a"), sync5(), edit("a", "z"), edit("b", "uv"), crash(0), crash(1), crash(9), fuse(1), quota(1)}
	n := len(steps)
	for i := range n * n * n * n {
		d, m := New(), newModel()
		var script string
		for k := i + n*n*n*n; k >= n; k /= n {
			s := steps[k%n]
			script += s.what + "; "
			if e, want := s.do(d), s.do(m); e != want {
				t.Fatalf("%s: %d, want %d", script, e, want)
			}
		}
		if !like(t, script, d, m) {
			return
		}
	}
}

// TestFollows holds over drawn scripts, without edits, what was synced behind a crash, and what a crash keeps.
func TestFollows(t *testing.T) {
	for seed := range 300 {
		for _, keeps := range []int{-1, 0, 1, 2, 5, 1000} {
			x := draws(seed)
			d := New()
			states := []string{""} // behind what was synced last, and behind each thing since
			for range 40 + seed%20 {
				s := x.drawn(5)
				done := len(d.Trace())
				s.do(d)
				if len(d.Trace()) > done {
					states = append(states, shown(d))
				}
				if d.Pending() == 0 {
					states = []string{shown(d)}
				}
			}
			want := states[min(max(keeps, 0), len(states)-1)]
			d.Crash(keeps)
			if s := shown(d); s != want {
				t.Errorf("seed %d, kept %d: %s, want %s", seed, keeps, s, want)
			}
		}
	}
}

// TestTraceTells holds that the trace of a disk that wasn't crashed or edited tells its files: also done to another one.
func TestTraceTells(t *testing.T) {
	for seed := range 300 {
		x := draws(seed)
		d := New()
		for range 60 {
			x.drawn(5).do(d)
		}
		var l []row
		other := New()
		for _, e := range d.Trace() {
			l = redone(l, e)
			does(t, other, []step{1: write1(e.Name, e.Data), 2: append2(e.Name, e.Data), 3: rename3(e.Name, e.To), 4: remove4(e.Name), 5: sync5()}[e.Op])
		}
		m := model{now: l}
		if s := shown(d); s != m.shown() || s != shown(other) || d.Pending() != other.Pending() || !slices.Equal(d.Trace(), other.Trace()) {
			t.Errorf("seed %d: %s, its trace's %s, another one's %s", seed, s, m.shown(), shown(other))
		}
		was := shown(d)
		d.Crash(d.Pending())
		if s := shown(d); s != was {
			t.Errorf("seed %d: all kept: %s, want %s", seed, s, was)
		}
	}
}

// TestSame holds that the same calls answer the same, and that disks don't know of each other.
func TestSame(t *testing.T) {
	for seed := range 50 {
		x, y := draws(seed), draws(seed)
		d, other, third := New(), New(), New()
		for range 100 {
			e, again := x.drawn(10).do(d), y.drawn(10).do(other)
			third.Write("a", "other")
			third.Sync()
			if e != again || state(d) != state(other) || !slices.Equal(d.Trace(), other.Trace()) {
				t.Fatalf("seed %d: %d, %s; %d, %s", seed, e, state(d), again, state(other))
			}
		}
	}
}
