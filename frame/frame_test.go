package frame_test

import (
	"fmt"
	"math"
	"slices"
	"strings"
	"testing"

	"jurat/api"
	"jurat/frame"
)

// most is how many bytes a body has at most, 2^26, as the chapter writes it.
const most = 1 << 26

// body is a text of so many bytes, of which no two neighbours are alike.
func body(n int) string {
	return strings.Repeat("abc", n/3+1)[:n]
}

// lengths are those of bodies near which a length has one byte more, and small ones.
func lengths() []int {
	return []int{0, 1, 2, 3, 126, 127, 128, 129, 255, 256, 16383, 16384, 16385, 1 << 20, 1<<21 - 1, 1 << 21}
}

// few are frames, among them some that are like others in all but the kind, or in all but the body, and bodies that look like frames.
func few() []frame.Frame {
	return []frame.Frame{
		{Kind: 1}, {Kind: 127}, {Kind: 7, Body: "ab"}, {Kind: 7, Body: "ac"}, {Kind: 8, Body: "ab"}, {Kind: 7, Body: "\x00"},
		{Kind: 1, Body: "\x01\x00"}, {Kind: 2, Body: "\x07\x02ab"}, {Kind: 97, Body: body(127)}, {Kind: 64, Body: body(128)}, {Kind: 1, Body: "\xff\x80\x00"},
	}
}

// lists calls f with each list of at most so many of the few frames.
func lists(most int, f func([]frame.Frame)) {
	var grow func([]frame.Frame)
	grow = func(l []frame.Frame) {
		f(l)
		if len(l) == most {
			return
		}
		for _, x := range few() {
			grow(append(slices.Clip(l), x))
		}
	}
	grow(nil)
}

// texts calls f with each text of at most so many bytes out of an alphabet.
func texts(alphabet string, most int, f func(string)) {
	var grow func(string)
	grow = func(s string) {
		f(s)
		if len(s) == most {
			return
		}
		for i := range len(alphabet) {
			grow(s + alphabet[i:i+1])
		}
	}
	grow("")
}

// length is a length's bytes, lowest digit first, a power of 128 each.
func length(n int) string {
	if n < 128 {
		return string([]byte{byte(n)})
	}
	return string([]byte{byte(n%128 + 128)}) + length(n/128)
}

// bytesOf is a frame's bytes, as the chapter words them.
func bytesOf(f frame.Frame) string {
	return string([]byte{byte(f.Kind)}) + length(len(f.Body)) + f.Body
}

// wantTake is what Take is to answer of a text of at most nine bytes, as the chapter words it.
func wantTake(s string) (frame.Frame, int, api.Errno) {
	none := frame.Frame{}
	if len(s) == 0 {
		return none, 0, api.ErrShort
	}
	if s[0] < 1 || s[0] > 127 {
		return none, 0, api.ErrForm
	}
	n, at := 0, 1
	for {
		if at == len(s) {
			return none, 0, api.ErrShort
		}
		c := int(s[at])
		n += c % 128 << (7 * (at - 1))
		at++
		if c < 128 {
			break
		}
	}
	switch {
	case at > 2 && s[at-1] == 0:
		return none, 0, api.ErrForm
	case n > most:
		return none, 0, api.ErrLong
	case n > len(s[at:]):
		return none, 0, api.ErrShort
	}
	return frame.Frame{Kind: int(s[0]), Body: s[at : at+n]}, at + n, api.OK
}

// wantSplit is what Split is to answer of a text of at most nine bytes.
func wantSplit(s string) ([]frame.Frame, int, api.Errno) {
	var l []frame.Frame
	at := 0
	for at < len(s) {
		f, size, e := wantTake(s[at:])
		if e != api.OK {
			return nil, at, e
		}
		l = append(l, f)
		at += size
	}
	return l, 0, api.OK
}

// shown is frames as a failure tells them, their bodies to the base 16, and none too long to be read.
func shown(l ...frame.Frame) string {
	var b strings.Builder
	for _, f := range l[:min(len(l), 8)] {
		fmt.Fprintf(&b, "{%d %.40x}", f.Kind, f.Body)
	}
	return b.String()
}

func checkPut(t *testing.T, f frame.Frame, ws string, we api.Errno) {
	t.Helper()
	if s, e := frame.Put(f); s != ws || e != we {
		t.Errorf("Put({%d, %d bytes}): %.40x, %v; want %.40x, %v", f.Kind, len(f.Body), s, e, ws, we)
	}
}

func checkTake(t *testing.T, s string, wf frame.Frame, wsize int, we api.Errno) {
	t.Helper()
	if f, size, e := frame.Take(s); f != wf || size != wsize || e != we {
		t.Errorf("Take(%.40x): %s, %d, %v; want %s, %d, %v", s, shown(f), size, e, shown(wf), wsize, we)
	}
}

func checkSplit(t *testing.T, s string, wl []frame.Frame, wn int, we api.Errno) {
	t.Helper()
	if l, n, e := frame.Split(s); !slices.Equal(l, wl) || n != wn || e != we {
		t.Errorf("Split(%.40x): %s, %d, %v; want %s, %d, %v", s, shown(l...), n, e, shown(wl...), wn, we)
	}
}

// 4.1: a frame's bytes, by examples.
func TestPut(t *testing.T) {
	checkPut(t, frame.Frame{Kind: 7, Body: "ab"}, "\x07\x02ab", api.OK)
	checkPut(t, frame.Frame{Kind: 1}, "\x01\x00", api.OK)
	checkPut(t, frame.Frame{Kind: 127, Body: "\x00"}, "\x7f\x01\x00", api.OK)
	checkPut(t, frame.Frame{Kind: 1, Body: body(127)}, "\x01\x7f"+body(127), api.OK)
	checkPut(t, frame.Frame{Kind: 1, Body: body(128)}, "\x01\x80\x01"+body(128), api.OK)
	checkPut(t, frame.Frame{Kind: 1, Body: body(300)}, "\x01\xac\x02"+body(300), api.OK)
}

// 4.1: kinds are those from 1 to 127, and each has its byte.
func TestKinds(t *testing.T) {
	for kind := -1000; kind <= 1000; kind++ {
		f := frame.Frame{Kind: kind, Body: "xy"}
		if kind < 1 || kind > 127 {
			checkPut(t, f, "", api.ErrArg)
			continue
		}
		s := string([]byte{byte(kind), 2, 'x', 'y'})
		checkPut(t, f, s, api.OK)
		checkTake(t, s, f, 4, api.OK)
	}
	for _, kind := range []int{math.MinInt, math.MinInt + 1, math.MaxInt, -255, 1<<8 + 1, 1<<16 + 1, 1<<32 + 1, 1<<62 + 1} {
		checkPut(t, frame.Frame{Kind: kind}, "", api.ErrArg)
	}
	for c := range 256 {
		if c < 1 || c > 127 {
			checkTake(t, string([]byte{byte(c), 2, 'x', 'y'}), frame.Frame{}, 0, api.ErrForm)
		}
	}
}

// 4.1: bodies of all lengths near which a length has one byte more.
func TestLengths(t *testing.T) {
	for _, n := range lengths() {
		f := frame.Frame{Kind: 5, Body: body(n)}
		s := bytesOf(f)
		checkPut(t, f, s, api.OK)
		checkTake(t, s, f, len(s), api.OK)
		checkTake(t, s+"\x00", f, len(s), api.OK)
		checkTake(t, s+s, f, len(s), api.OK)
		if n > 0 {
			checkTake(t, s[:len(s)-1], frame.Frame{}, 0, api.ErrShort)
		}
	}
}

// 4.1: the longest body there is, and one that is a byte too long; a kind that is none is told ahead of that.
func TestLongest(t *testing.T) {
	long := body(most + 1)
	f := frame.Frame{Kind: 3, Body: long[:most]}
	s := "\x03\x80\x80\x80\x20" + f.Body
	checkPut(t, f, s, api.OK)
	checkTake(t, s, f, len(s), api.OK)
	checkTake(t, s[:len(s)-1], frame.Frame{}, 0, api.ErrShort)
	checkPut(t, frame.Frame{Kind: 3, Body: long}, "", api.ErrLong)
	checkPut(t, frame.Frame{Kind: 0, Body: long}, "", api.ErrArg)
	checkPut(t, frame.Frame{Kind: 128, Body: long}, "", api.ErrArg)
	checkTake(t, "\x03\x81\x80\x80\x20"+long, frame.Frame{}, 0, api.ErrLong)
}

// 4.1: the errors of Take, by examples, each ahead of those that are named behind it.
func TestTakeErrors(t *testing.T) {
	for _, x := range []struct {
		s string
		e api.Errno
	}{
		{"", api.ErrShort},
		{"\x00", api.ErrForm},
		{"\x80", api.ErrForm},
		{"\xff\x00", api.ErrForm},
		{"\x00\x01", api.ErrForm},
		{"\x00\x80\x80\x80\x80\x80\x80\x80\x80\x80", api.ErrForm},
		{"\x80\x81\x80\x80\x20", api.ErrForm},
		{"\x07", api.ErrShort},
		{"\x07\x80", api.ErrShort},
		{"\x07\x80\x80\x80\x80\x80\x80\x80\x80", api.ErrShort},
		{"\x07\x80\x00", api.ErrForm},
		{"\x07\x81\x00a", api.ErrForm},
		{"\x07\x80\x80\x80\x80\x80\x80\x80\x80\x00", api.ErrForm},
		{"\x07\x80\x80\x80\x80\x80\x80\x80\x80\x80", api.ErrLong},
		{"\x07\xff\xff\xff\xff\xff\xff\xff\xff\xff\x01", api.ErrLong},
		{"\x07\x80\x80\x80\x80\x80\x80\x80\x80\x01", api.ErrLong},
		{"\x07\xff\xff\xff\xff\xff\xff\xff\xff\x7f", api.ErrLong},
		{"\x07\xff\xff\xff\xff\xff\xff\xff\xff\x7fabc", api.ErrLong},
		{"\x07\x80\x80\x80\x80\x10", api.ErrLong},
		{"\x07\x81\x80\x80\x20", api.ErrLong},
		{"\x07\x80\x80\x80\x20", api.ErrShort},
		{"\x07\xff\xff\xff\x1f", api.ErrShort},
		{"\x07\x01", api.ErrShort},
		{"\x07\x03ab", api.ErrShort},
		{"\x07\x80\x01a", api.ErrShort},
	} {
		checkTake(t, x.s, frame.Frame{}, 0, x.e)
	}
}

// 4.1, 4.2: Take and Split of all short texts of bytes that kinds and lengths are made of; 4.3: what is split without fault is joined to the same bytes.
func TestShortTexts(t *testing.T) {
	texts("\x00\x01\x02\x03\x7f\x80\x81\xff", 5, func(s string) {
		f, size, e := wantTake(s)
		checkTake(t, s, f, size, e)
		l, n, e := wantSplit(s)
		checkSplit(t, s, l, n, e)
		if e != api.OK {
			return
		}
		if joined, e := frame.Join(l); joined != s || e != api.OK {
			t.Errorf("Join(Split(%x)): %x, %v", s, joined, e)
		}
	})
	texts("\x00\x01\x02", 9, func(s string) {
		l, n, e := wantSplit(s)
		checkSplit(t, s, l, n, e)
	})
}

// 4.2: frames one behind the other, and none; 4.3: they are split as they were joined.
func TestJoin(t *testing.T) {
	lists(3, func(l []frame.Frame) {
		want := ""
		for _, f := range l {
			want += bytesOf(f)
		}
		if s, e := frame.Join(l); s != want || e != api.OK {
			t.Errorf("Join(%s): %.40x, %v; want %.40x", shown(l...), s, e, want)
		}
		checkSplit(t, want, l, 0, api.OK)
	})
	if s, e := frame.Join([]frame.Frame{}); s != "" || e != api.OK {
		t.Errorf("Join of an empty list: %x, %v", s, e)
	}
}

// 4.3: unlike lists of frames are joined to unlike bytes.
func TestUnlike(t *testing.T) {
	seen := map[string]int{}
	count := 0
	lists(3, func(l []frame.Frame) {
		s, _ := frame.Join(l)
		seen[s]++
		count++
	})
	if len(seen) != count {
		t.Errorf("%d lists were joined to %d texts", count, len(seen))
	}
}

// 4.2: the error of the first frame that has one, wherever it stands, and no bytes.
func TestJoinErrors(t *testing.T) {
	long := body(most + 1)
	good := frame.Frame{Kind: 7, Body: "ab"}
	noKind := frame.Frame{Kind: 128, Body: "ab"}
	tooLong := frame.Frame{Kind: 7, Body: long}
	both := frame.Frame{Kind: -1, Body: long}
	for i, x := range []struct {
		l []frame.Frame
		e api.Errno
	}{
		{[]frame.Frame{noKind}, api.ErrArg},
		{[]frame.Frame{tooLong}, api.ErrLong},
		{[]frame.Frame{both}, api.ErrArg},
		{[]frame.Frame{{}}, api.ErrArg},
		{[]frame.Frame{good, noKind}, api.ErrArg},
		{[]frame.Frame{noKind, good}, api.ErrArg},
		{[]frame.Frame{good, good, tooLong, good}, api.ErrLong},
		{[]frame.Frame{good, tooLong, noKind}, api.ErrLong},
		{[]frame.Frame{good, noKind, tooLong}, api.ErrArg},
		{[]frame.Frame{tooLong, both}, api.ErrLong},
		{[]frame.Frame{both, tooLong}, api.ErrArg},
	} {
		if s, e := frame.Join(x.l); s != "" || e != x.e {
			t.Errorf("Join of list %d: %d bytes, %v; want none, %v", i, len(s), e, x.e)
		}
	}
}

// 4.2: where the first frame is wrong, and why, by examples.
func TestSplitErrors(t *testing.T) {
	for _, x := range []struct {
		s string
		n int
		e api.Errno
	}{
		{"\x07\x02a", 0, api.ErrShort},
		{"\x07", 0, api.ErrShort},
		{"\x00", 0, api.ErrForm},
		{"\x07\x02ab\x00", 4, api.ErrForm},
		{"\x07\x02ab\x80\x00", 4, api.ErrForm},
		{"\x07\x02ab\x07", 4, api.ErrShort},
		{"\x07\x02ab\x07\x80\x00", 4, api.ErrForm},
		{"\x07\x02ab\x01\x00\x07\x03ab", 6, api.ErrShort},
		{"\x07\x02ab\x01\x00\x07\x81\x80\x80\x20", 6, api.ErrLong},
		{"\x07\x02ab\x07\x80\x80\x80\x80\x80\x80\x80\x80\x80\x00", 4, api.ErrLong},
		{"\x01\x00\x00\x07\x01", 2, api.ErrForm},
	} {
		checkSplit(t, x.s, nil, x.n, x.e)
	}
}

// 4.3: of frames that are cut off, those ahead of the cut alone are there: the one that is cut is never told, nor anything behind it.
func TestCut(t *testing.T) {
	lists(2, func(l []frame.Frame) {
		s, _ := frame.Join(l)
		start := 0
		for i, f := range l {
			checkSplit(t, s[:start], l[:i], 0, api.OK)
			next := start + len(bytesOf(f))
			for cut := start + 1; cut < next; cut++ {
				checkSplit(t, s[:cut], nil, start, api.ErrShort)
				checkTake(t, s[start:cut], frame.Frame{}, 0, api.ErrShort)
			}
			start = next
		}
	})
}

// R4: a list that is joined is not changed, nor is anything read or written behind its length; lists that are split share nothing.
func TestMemory(t *testing.T) {
	room := []frame.Frame{{Kind: 7, Body: "ab"}, {Kind: 1}, {Kind: 0, Body: "wrong"}}
	kept := slices.Clone(room)
	if s, e := frame.Join(room[:2]); s != "\x07\x02ab\x01\x00" || e != api.OK {
		t.Errorf("Join: %x, %v", s, e)
	}
	if !slices.Equal(room, kept) {
		t.Errorf("Join changed its list to %s", shown(room...))
	}
	a, _, _ := frame.Split("\x07\x02ab\x01\x00")
	b, _, _ := frame.Split("\x07\x02ab\x01\x00")
	clear(a[:cap(a)])
	if !slices.Equal(b, kept[:2]) {
		t.Errorf("lists of Split share memory: %s", shown(b...))
	}
}

// R5: the same again, of frames and of bytes with and without fault.
func TestAgain(t *testing.T) {
	for range 3 {
		checkPut(t, frame.Frame{Kind: 7, Body: "ab"}, "\x07\x02ab", api.OK)
		checkPut(t, frame.Frame{Body: "ab"}, "", api.ErrArg)
		checkSplit(t, "\x07\x02ab\x07", nil, 4, api.ErrShort)
		checkSplit(t, "\x07\x02ab", []frame.Frame{{Kind: 7, Body: "ab"}}, 0, api.OK)
	}
}
