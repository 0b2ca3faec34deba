package head_test

import (
	"runtime"
	"slices"
	"strings"
	"testing"
	"unsafe"
	"weak"

	"jurat/api"
	"jurat/book"
	"jurat/head"
	"jurat/pats"
)

// most is how many bytes a body has at most, 2^26, as chapter 4 writes it.
const most = 1 << 26

// mark is how a certificate begins, byte by byte as the chapter writes it.
const mark = "\x63\x65\x72\x74\x01"

// body is a text of so many bytes, of which no two neighbours are alike.
func body(n int) string {
	return strings.Repeat("abc", n/3+1)[:n]
}

// bytesOf is a text of these bytes.
func bytesOf(l ...byte) string {
	return string(l)
}

// length is a length's bytes, lowest digit first, a power of 128 each.
func length(n int) string {
	if n < 128 {
		return bytesOf(byte(n))
	}
	return bytesOf(byte(n%128+128)) + length(n/128)
}

// headOf is a file's head, as the chapter words it.
func headOf(file string) string {
	return mark + "\x01" + length(len(file)) + file
}

// files is such as are short, such as look like heads, and such as are longer than a byte tells.
func files() []string {
	return []string{
		"", "a", "b", "ab", "ba", "aa", "aab", "\x00", "\x00\x00", "\x01", "\x01\x00", "\xff", "\x80\x80", mark, mark + "\x01", mark + "\x01\x00", headOf("ab"), headOf(headOf("")),
		body(126), body(127), body(128), body(129), body(255), body(256), body(300),
	}
}

// texts calls f with each text of at most so many bytes out of some.
func texts(some string, most int, f func(string)) {
	var grow func([]byte)
	grow = func(b []byte) {
		f(string(b))
		if len(b) == most {
			return
		}
		for i := range len(some) {
			grow(append(b, some[i]))
		}
	}
	grow(make([]byte, 0, most))
}

// takeLength is the number with which bytes begin, and how many bytes it has, as chapter 2 words it.
func takeLength(s string) (uint64, int, api.Errno) {
	var n uint64
	for i := range 9 {
		if i == len(s) {
			return 0, 0, api.ErrShort
		}
		n += uint64(s[i]%128) << (7 * i)
		switch {
		case s[i] >= 128:
			continue
		case s[i] == 0 && i > 0:
			return 0, 0, api.ErrForm
		}
		return n, i + 1, api.OK
	}
	return 0, 0, api.ErrLong
}

// wantTake is what Take is to answer, as the chapters word it.
func wantTake(s string) (string, int, api.Errno) {
	for i := range 5 {
		if i == len(s) {
			return "", 0, api.ErrShort
		}
		if s[i] != mark[i] {
			return "", 0, api.ErrHead
		}
	}
	switch {
	case len(s) == 5:
		return "", 0, api.ErrShort
	case s[5] == 0 || s[5] > 127:
		return "", 0, api.ErrForm
	}
	n, width, e := takeLength(s[6:])
	at := 6 + width
	switch {
	case e != api.OK:
		return "", 0, e
	case n > most:
		return "", 0, api.ErrLong
	case n > uint64(len(s)-at):
		return "", 0, api.ErrShort
	case s[5] != 1:
		return "", 0, api.ErrHead
	}
	return s[at : at+int(n)], at + int(n), api.OK
}

func checkPut(t *testing.T, file, want string, we api.Errno) {
	t.Helper()
	if s, e := head.Put(file); s != want || e != we {
		t.Errorf("Put(%d bytes %.40x): %d bytes %.40x, %v; want %d bytes %.40x, %v", len(file), file, len(s), s, e, len(want), want, we)
	}
}

func checkAnswer(t *testing.T, s, want string, size int, we api.Errno) {
	t.Helper()
	if file, n, e := head.Take(s); file != want || n != size || e != we {
		t.Errorf("Take(%d bytes %.40x): %d bytes %.40x, %d, %v; want %d bytes %.40x, %d, %v", len(s), s, len(file), file, n, e, len(want), want, size, we)
	}
}

// checkTake asks for what any bytes begin with, which are those that are put of it.
func checkTake(t *testing.T, s string) {
	t.Helper()
	file, size, e := wantTake(s)
	checkAnswer(t, s, file, size, e)
	if e == api.OK {
		checkPut(t, file, s[:size], api.OK)
	}
}

// 29.1: the chapter's example, and its constants.
func TestExample(t *testing.T) {
	if head.Mark != mark || head.File != 1 {
		t.Errorf("Mark %x, File %d; want %x, 1", head.Mark, head.File, mark)
	}
	s := bytesOf(0x63, 0x65, 0x72, 0x74, 0x01, 0x01, 0x02, 0x61, 0x62)
	checkPut(t, "ab", s, api.OK)
	checkAnswer(t, s, "ab", 9, api.OK)
}

// 29.1: files of all lengths near which a length has one byte more, their heads with bytes behind them, and cut off.
func TestLengths(t *testing.T) {
	l := files()
	for _, n := range []int{16383, 16384, 16385, 1 << 20, 1<<21 - 1, 1 << 21} {
		l = append(l, body(n))
	}
	for _, file := range l {
		s := headOf(file)
		checkPut(t, file, s, api.OK)
		for _, behind := range []string{"", "\x00", "\x01\x01\x01", "\xff", mark, s} {
			checkAnswer(t, s+behind, file, len(s), api.OK)
		}
		for i := range min(len(s), 400) {
			checkAnswer(t, s[:i], "", 0, api.ErrShort)
			checkAnswer(t, s[:len(s)-1-i], "", 0, api.ErrShort)
		}
	}
}

// 29.1: each byte, and each two of them, as a file.
func TestEachFile(t *testing.T) {
	for a := range 256 {
		checkPut(t, bytesOf(byte(a)), mark+"\x01\x01"+bytesOf(byte(a)), api.OK)
		for b := range 256 {
			file := bytesOf(byte(a), byte(b))
			checkPut(t, file, mark+"\x01\x02"+file, api.OK)
			checkAnswer(t, mark+"\x01\x02"+file+"x", file, 9, api.OK)
		}
	}
}

// 29.1: the longest file that has a head, and one that is a byte too long, of which nothing is told.
func TestLongest(t *testing.T) {
	file := body(most)
	s := mark + "\x01\x80\x80\x80\x20" + file
	checkPut(t, file, s, api.OK)
	checkAnswer(t, s, file, len(s), api.OK)
	checkAnswer(t, s[:len(s)-1], "", 0, api.ErrShort)
	m, e := head.New(file)
	if m == nil || e != api.OK {
		t.Fatalf("New of the longest file: %v", e)
	}
	checkFeed(t, m, s[:most], most, api.OK)
	checkTold(t, m, false, len(s)-most)
	checkFeed(t, m, s[most:]+"x", len(s)-most, api.OK)
	checkTold(t, m, true, 0)

	for _, n := range []int{1, 2, 1 << 20} {
		file = body(most + n)
		checkPut(t, file, "", api.ErrLong)
		if m, e := head.New(file); m != nil || e != api.ErrLong {
			t.Errorf("New of a file of %d bytes: %v, %v; want nil, %v", len(file), m, e, api.ErrLong)
		}
		checkAnswer(t, mark+"\x01"+length(len(file))+file, "", 0, api.ErrLong)
	}
}

// 29.1: beginnings of Mark, and what does not begin with it, wherever another byte stands and whatever stands behind.
func TestMark(t *testing.T) {
	for i := range 5 {
		checkAnswer(t, mark[:i], "", 0, api.ErrShort)
		for c := range 256 {
			if byte(c) == mark[i] {
				continue
			}
			s := mark[:i] + bytesOf(byte(c))
			checkAnswer(t, s, "", 0, api.ErrHead)
			for _, behind := range []string{"x", mark, mark[i:], mark[i+1:], mark[i+1:] + "\x01\x00", mark[i+1:] + "\x01\x02ab", mark[i:] + "\x01\x02ab", mark[i+1:] + "\x00", mark[i+1:] + "\x01\x80\x00"} {
				checkAnswer(t, s+behind, "", 0, api.ErrHead)
			}
		}
	}
	checkAnswer(t, mark, "", 0, api.ErrShort)
	for _, s := range []string{"Cert\x01", "CERT\x01", "cert", "cert1", "cert\x00", "cert\x02", "cert\x01cert\x01", "ert\x01", " cert\x01", "\x01\x02ab", "jurat\x01\x00"} {
		checkTake(t, s)
		checkTake(t, s+"\x01\x02ab")
	}
}

// 29.1: all short texts of the bytes of Mark, and of others.
func TestShortTexts(t *testing.T) {
	texts("cert\x01\x00x", 6, func(s string) {
		checkTake(t, s)
		if t.Failed() {
			t.FailNow()
		}
	})
	texts("\x00\x01\x02\x04\x7f\x80\xff", 6, func(s string) {
		checkTake(t, mark+s)
		if t.Failed() {
			t.FailNow()
		}
	})
}

// 29.1: each kind of a frame behind Mark, of bodies that are there whole, and of such as are not.
func TestKinds(t *testing.T) {
	for c := range 256 {
		kind := bytesOf(byte(c))
		checkTake(t, mark+kind)
		checkTake(t, mark+kind+"\x00")
		checkTake(t, mark+kind+"\x02ab")
		checkTake(t, mark+kind+"\x02ab"+headOf("ab"))
		checkTake(t, mark+kind+"\x02a")
		checkTake(t, mark+kind+"\x80")
		checkTake(t, mark+kind+"\x80\x00")
		checkTake(t, mark+kind+strings.Repeat("\xff", 9))
		checkTake(t, mark+kind+length(most+1))
		checkTake(t, mark+kind+length(most))
		checkTake(t, mark+kind+length(300)+body(300))
		checkTake(t, mark+kind+length(300)+body(299))
	}
}

// 29.1: each error alone, and which of several is told: the frame's own ahead of its kind.
func TestErrors(t *testing.T) {
	tooLong := strings.Repeat("\x80", 9)
	for _, q := range []struct {
		s string
		e api.Errno
	}{
		{"", api.ErrShort}, {"c", api.ErrShort}, {"cert", api.ErrShort}, {mark, api.ErrShort}, {mark + "\x01", api.ErrShort},
		{"x", api.ErrHead}, {"certx", api.ErrHead}, {"\x01", api.ErrHead}, {"ccert\x01\x01\x00", api.ErrHead},
		{mark + "\x00", api.ErrForm}, {mark + "\x80", api.ErrForm}, {mark + "\xff\x00", api.ErrForm}, {mark + "\x00\x00", api.ErrForm}, {mark + "\x81\x02ab", api.ErrForm},
		{mark + "\x01\x80", api.ErrShort}, {mark + "\x01\x80\x00", api.ErrForm}, {mark + "\x01\x80\x80\x00", api.ErrForm}, {mark + "\x01" + tooLong, api.ErrLong}, {mark + "\x01" + tooLong[1:], api.ErrShort}, {mark + "\x01" + tooLong[1:] + "\x01", api.ErrLong},
		{mark + "\x01\x80\x80\x80\x20", api.ErrShort}, {mark + "\x01\x81\x80\x80\x20", api.ErrLong}, {mark + "\x01\x01", api.ErrShort}, {mark + "\x01\x02a", api.ErrShort},
		{mark + "\x02", api.ErrShort}, {mark + "\x02\x01", api.ErrShort}, {mark + "\x7f\x80", api.ErrShort}, {mark + "\x02\x80\x00", api.ErrForm}, {mark + "\x02" + tooLong, api.ErrLong}, {mark + "\x02\x81\x80\x80\x20", api.ErrLong}, {mark + "\x02\x80\x80\x80\x20", api.ErrShort},
		{mark + "\x02\x00", api.ErrHead}, {mark + "\x7f\x00", api.ErrHead}, {mark + "\x02\x02ab", api.ErrHead}, {mark + "\x03\x00\x01\x00", api.ErrHead}, {mark + "\x02\x00" + headOf("ab"), api.ErrHead},
	} {
		checkAnswer(t, q.s, "", 0, q.e)
		checkTake(t, q.s)
	}
}

// 29.3: unlike files have unlike heads, and none begins with another one's.
func TestUnlike(t *testing.T) {
	l := files()
	texts("ab\x00\x01", 3, func(s string) { l = append(l, s) })
	for _, a := range l {
		s, _ := head.Put(a)
		for _, b := range l {
			if p, _ := head.Put(b); strings.HasPrefix(p, s) != (a == b) {
				t.Errorf("the head of %x: %x; of %x: %x", a, s, b, p)
			}
		}
	}
}

// 29.1, 29.2: pattern files of sets.
func TestSets(t *testing.T) {
	for _, l := range [][]string{{"a"}, {"ab", "b"}, {"he", "hers", "she"}, {"\x00", "\xff"}, {body(300), body(301)}} {
		x, e := pats.New(l)
		if e != api.OK {
			t.Fatal(e)
		}
		file := book.Put(x)
		s := headOf(file)
		checkPut(t, file, s, api.OK)
		checkAnswer(t, s+"\x06\x00\x00", file, len(s), api.OK)
		m := matchOf(t, file)
		checkFeed(t, m, s+"\x06\x00\x00", len(s), api.OK)
		checkTold(t, m, true, 0)
	}
}

// matchOf is a match of a file's head.
func matchOf(t *testing.T, file string) *head.Match {
	t.Helper()
	m, e := head.New(file)
	if m == nil || e != api.OK {
		t.Fatalf("New(%.40x): %v, %v", file, m, e)
	}
	return m
}

func checkFeed(t *testing.T, m *head.Match, s string, want int, we api.Errno) {
	t.Helper()
	if n, e := m.Feed(s); n != want || e != we {
		t.Errorf("Feed(%d bytes %.40x): %d, %v; want %d, %v", len(s), s, n, e, want, we)
	}
}

func checkTold(t *testing.T, m *head.Match, done bool, left int) {
	t.Helper()
	if d, n := m.Done(), m.Left(); d != done || n != left {
		t.Errorf("done %v, %d left; want %v, %d", d, n, done, left)
	}
}

// model is what a match is to answer, byte by byte as the chapter words it.
type model struct {
	// left is the bytes of the head that have not come.
	left  []byte
	other bool
}

// newModel is a model of a file's head.
func newModel(file string) *model {
	return &model{left: []byte(headOf(file))}
}

// feed is what Feed is to answer.
func (o *model) feed(s string) (int, api.Errno) {
	if o.other {
		return 0, api.ErrHead
	}
	n := 0
	for _, c := range []byte(s) {
		if len(o.left) == 0 {
			break
		}
		if c != o.left[0] {
			o.other = true
			return n, api.ErrHead
		}
		o.left = o.left[1:]
		n++
	}
	return n, api.OK
}

// checkParts lets parts come one by one, and asks each time for all that is told.
func checkParts(t *testing.T, file string, parts []string) {
	t.Helper()
	m, o := matchOf(t, file), newModel(file)
	checkTold(t, m, false, len(o.left))
	for _, p := range parts {
		n, e := o.feed(p)
		checkFeed(t, m, p, n, e)
		checkTold(t, m, len(o.left) == 0 && !o.other, len(o.left))
	}
	if t.Failed() {
		t.Fatalf("file %.40x, parts %.40x", file, parts)
	}
}

// partings calls f with a text in all its partings, of which no part is empty.
func partings(s string, f func([]string)) {
	if s == "" {
		f(nil)
		return
	}
	for cuts := range 1 << (len(s) - 1) {
		var parts []string
		at := 0
		for i := 1; i < len(s); i++ {
			if cuts>>(i-1)&1 == 1 {
				parts = append(parts, s[at:i])
				at = i
			}
		}
		f(append(parts, s[at:]))
	}
}

// spread is parts with an empty one ahead of each, and two behind the last.
func spread(parts []string) []string {
	var l []string
	for _, p := range parts {
		l = append(l, "", p)
	}
	return append(l, "", "")
}

// 29.2: a head that comes whole, in all partings, with bytes behind it, or without its last ones.
func TestPartings(t *testing.T) {
	for _, file := range []string{"", "a", "ab", "\x00"} {
		s := headOf(file)
		for _, behind := range []string{"", "x", "\x00", s[:2], s[len(s)-1:] + "x"} {
			partings(s+behind, func(parts []string) {
				checkParts(t, file, parts)
				checkParts(t, file, spread(parts))
			})
		}
		for i := range len(s) {
			partings(s[:i], func(parts []string) {
				checkParts(t, file, parts)
				checkParts(t, file, spread(parts))
			})
		}
	}
}

// 29.2, 29.3: a byte that is another one than the head's, at each place, in all partings: all behind it is refused, be it what the head goes on with.
func TestOther(t *testing.T) {
	for _, file := range []string{"", "ab"} {
		s := headOf(file)
		for i := range len(s) {
			for _, c := range []byte{0, 1, 'c', 'x', s[i] + 1, s[i] ^ 0x80} {
				for _, behind := range []string{"", s[i:], s[i+1:]} {
					partings(s[:i]+bytesOf(c)+behind, func(parts []string) {
						checkParts(t, file, parts)
						checkParts(t, file, spread(parts))
					})
				}
			}
		}
	}
}

// 29.2: each byte at each place of a head, alone and with those ahead of it.
func TestEachByte(t *testing.T) {
	for _, file := range []string{"", "a", "ab\x80\xff", body(130)} {
		s := headOf(file)
		for i := range len(s) {
			for c := range 256 {
				bad := bytesOf(byte(c))
				checkParts(t, file, []string{s[:i], bad, s[i:], "", bad})
				checkParts(t, file, []string{s[:i] + bad + s[i+1:], s[i:]})
			}
		}
	}
}

// 29.2: all short lists of few parts.
func TestFewParts(t *testing.T) {
	s := headOf("c")
	few := []string{"", "c", "ce", "rt", "cert", "\x01", "\x01\x01", "e", s, s[1:], s[5:], "x"}
	var grow func(parts []string)
	grow = func(parts []string) {
		checkParts(t, "c", parts)
		if len(parts) == 4 {
			return
		}
		for _, p := range few {
			grow(append(slices.Clip(parts), p))
		}
	}
	grow(nil)
}

// 29.2: heads of files of many kinds, in parts of all lengths, right ones and wrong ones.
func TestFiles(t *testing.T) {
	for _, file := range files() {
		for _, other := range append(files(), body(300)[:299]+"x") {
			s := headOf(other) + "\x06\x00\x00"
			for size := 1; size <= len(s); size += 1 + size/9 {
				var parts []string
				for at := 0; at < len(s); at += size {
					parts = append(parts, s[at:min(at+size, len(s))])
				}
				checkParts(t, file, parts)
			}
			m := matchOf(t, file)
			m.Feed(s)
			if m.Done() != (file == other) {
				t.Errorf("of %.40x, the head of %.40x: done %v", file, other, m.Done())
			}
		}
	}
}

// 29.2: when all of the head came no byte is asked any more, whatever comes and however often.
func TestBehind(t *testing.T) {
	m := matchOf(t, "ab")
	checkFeed(t, m, headOf("ab"), 9, api.OK)
	for _, s := range []string{"", "x", "\x00", "b", headOf("ab"), mark, "\x06\x00\x00", body(999)} {
		checkFeed(t, m, s, 0, api.OK)
		checkTold(t, m, true, 0)
	}
}

// 29.2: what is wrong stays wrong, and the bytes ahead of it came.
func TestWrong(t *testing.T) {
	m := matchOf(t, "ab")
	checkFeed(t, m, "cert\x01\x01\x02a"+"x"+"b", 8, api.ErrHead)
	for _, s := range []string{"", "b", "x", "bx", headOf("ab"), "", "b"} {
		checkTold(t, m, false, 1)
		checkFeed(t, m, s, 0, api.ErrHead)
	}
	m = matchOf(t, "ab")
	checkFeed(t, m, "x"+headOf("ab"), 0, api.ErrHead)
	checkTold(t, m, false, 9)
	checkFeed(t, m, headOf("ab"), 0, api.ErrHead)
	checkTold(t, m, false, 9)
}

// 29.2: a nil match.
func TestNil(t *testing.T) {
	var m *head.Match
	for _, s := range []string{"", "c", headOf(""), "x"} {
		checkFeed(t, m, s, 0, api.ErrNil)
		checkTold(t, m, false, 0)
	}
}

// 29.3: what a match says of a long head hangs on the bytes, not on their parts, and right bytes one by one take little memory.
func TestLong(t *testing.T) {
	file := body(1 << 20)
	s := headOf(file)
	for _, at := range []int{0, 7, 999, len(s) / 2, len(s) - 1, len(s)} {
		bad := s[:at] + "\xff" + s[min(at+1, len(s)):]
		for _, size := range []int{1, 2, 1000, 1 << 16, len(bad)} {
			m := matchOf(t, file)
			before := allocated()
			came, ok := 0, true
			for i := 0; i < len(bad); i += size {
				n, e := m.Feed(bad[i:min(i+size, len(bad))])
				if !ok && (n != 0 || e != api.ErrHead) {
					t.Fatalf("wrong at %d, parts of %d, behind: %d, %v", at, size, n, e)
				}
				came, ok = came+n, e == api.OK
				if m.Done() != (came == len(s)) || m.Left() != len(s)-came || ok && at < min(i+size, len(s)) {
					t.Fatalf("wrong at %d, parts of %d, at %d: %d, %v, %v, %d", at, size, i, came, e, m.Done(), m.Left())
				}
			}
			if more := allocated() - before; more > 1<<18 {
				t.Errorf("wrong at %d, parts of %d: %d bytes of memory", at, size, more)
			}
			if came != at || ok != (at == len(s)) {
				t.Errorf("wrong at %d, parts of %d: %d came, right %v", at, size, came, ok)
			}
		}
	}
}

// allocated is how many bytes of memory were ever made.
func allocated() uint64 {
	var m runtime.MemStats
	runtime.ReadMemStats(&m)
	return m.TotalAlloc
}

// collect lets what is kept by nobody be given up.
func collect() {
	for range 3 {
		runtime.GC()
	}
}

// R4: a match keeps neither the file nor the bytes that came.
func TestKept(t *testing.T) {
	for _, right := range []bool{true, false} {
		// Bytes that are few may lie in one piece of memory with others.
		b := append(make([]byte, 0, 999), body(500)...)
		file := weak.Make(&b[0])
		m := matchOf(t, unsafe.String(&b[0], len(b)))
		s := []byte(headOf(body(500)))
		if !right {
			s[100] = 'x'
		}
		part := weak.Make(&s[0])
		n, e := m.Feed(unsafe.String(&s[0], 300))
		if right != (n == 300 && e == api.OK) || right == (n == 100 && e == api.ErrHead) {
			t.Errorf("right %v: %d, %v", right, n, e)
		}
		b, s = nil, nil
		collect()
		if file.Value() != nil || part.Value() != nil {
			t.Errorf("right %v: what was handed in is kept: the file %v, a part %v", right, file.Value() != nil, part.Value() != nil)
		}
		if right {
			checkFeed(t, m, headOf(body(500))[300:], 508-300, api.OK)
			checkTold(t, m, true, 0)
		} else {
			checkFeed(t, m, "", 0, api.ErrHead)
			checkTold(t, m, false, 408)
		}
	}
}

// R3, R5: the same again, whatever was asked or refused ahead; matches know nothing of each other.
func TestAgain(t *testing.T) {
	a, b, c := matchOf(t, "ab"), matchOf(t, "ab"), matchOf(t, "abc")
	for range 3 {
		checkPut(t, "ab", headOf("ab"), api.OK)
		checkAnswer(t, headOf("ab"), "ab", 9, api.OK)
		checkAnswer(t, headOf("ab")[:8], "", 0, api.ErrShort)
		checkAnswer(t, "certs", "", 0, api.ErrHead)
		checkTold(t, a, false, 9)
	}
	checkFeed(t, a, "ceX", 2, api.ErrHead)
	checkFeed(t, b, "cert", 4, api.OK)
	checkFeed(t, c, "c", 1, api.OK)
	checkTold(t, a, false, 7)
	checkTold(t, b, false, 5)
	checkTold(t, c, false, 9)
	checkFeed(t, a, "rt", 0, api.ErrHead)
	checkFeed(t, b, "\x01\x01\x02ab", 5, api.OK)
	checkFeed(t, c, "ert\x01\x01\x02", 5, api.ErrHead)
	for range 3 {
		checkTold(t, a, false, 7)
		checkTold(t, b, true, 0)
		checkTold(t, c, false, 4)
	}
}
