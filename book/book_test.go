package book_test

import (
	"math"
	"slices"
	"strconv"
	"strings"
	"testing"
	"unsafe"

	"jurat/api"
	"jurat/book"
	"jurat/pats"
)

// head is how the bytes of a set begin, as the chapter's example writes it.
const head = "\x6a\x75\x72\x61\x74\x01"

// texts calls f with each text of at most so many bytes out of an alphabet.
func texts(alphabet string, most int, f func(string)) {
	var grow func(string)
	grow = func(s string) {
		f(s)
		if len(s) == most {
			return
		}
		for i := range len(alphabet) {
			grow(s + alphabet[i:i+1])
		}
	}
	grow("")
}

// subsets calls f with each list of some texts, each once, that is not empty.
func subsets(some []string, f func([]string)) {
	for chosen := 1; chosen < 1<<len(some); chosen++ {
		var l []string
		for i, s := range some {
			if chosen>>i&1 == 1 {
				l = append(l, s)
			}
		}
		f(l)
	}
}

// few are lists of patterns, among them some that share much, and some that look like a file.
func few() [][]string {
	return [][]string{
		{"a"},
		{"a", "ab"},
		{"a", "ab", "abc", "b"},
		{"abcd", "abce", "abd", "b\x00", "b\x00\x00"},
		{"\x00", "\x01", "\x7f", "\x80", "\x80\x80", "\xff", "\xff\xff"},
		{head, head + "\x01\x00\x01a"},
		{strings.Repeat("x", 127), strings.Repeat("x", 128), strings.Repeat("x", 300) + "y"},
	}
}

// number is a number's bytes, lowest digit first, a power of 128 each.
func number(n int) string {
	if n < 128 {
		return string([]byte{byte(n)})
	}
	return string([]byte{byte(n%128 + 128)}) + number(n/128)
}

// entry is what a file tells of a pattern: how many bytes it shares with the one ahead, how many it has behind these, and what bytes stand there.
func entry(shared, more int, rest string) string {
	return number(shared) + number(more) + rest
}

// file is what stands in a file that tells of so many patterns.
func file(n int, entries ...string) string {
	return head + number(n) + strings.Join(entries, "")
}

// bytesOf is the bytes of a set, of its patterns in order, as the chapter words them.
func bytesOf(l []string) string {
	var b strings.Builder
	b.WriteString(file(len(l)))
	ahead := ""
	for _, s := range l {
		shared := 0
		for shared < len(ahead) && strings.HasPrefix(s, ahead[:shared+1]) {
			shared++
		}
		b.WriteString(entry(shared, len(s)-shared, s[shared:]))
		ahead = s
	}
	return b.String()
}

// takeNumber is the number with which bytes begin, and what stands behind it, as chapter 2 words it.
func takeNumber(s string) (uint64, string, api.Errno) {
	var n uint64
	for i := range min(len(s), 9) {
		n += uint64(s[i]%128) << (7 * i)
		switch {
		case s[i] >= 128:
			continue
		case s[i] == 0 && i > 0:
			return 0, "", api.ErrForm
		}
		return n, s[i+1:], api.OK
	}
	if len(s) >= 9 {
		return 0, "", api.ErrLong
	}
	return 0, "", api.ErrShort
}

// takePattern is the pattern that is told next, behind another one, or "", of which so many bytes are told so far; and what stands behind it.
func takePattern(s, ahead string, total int) (string, string, api.Errno) {
	shared, s, e := takeNumber(s)
	if e != api.OK {
		return "", "", e
	}
	more, s, e := takeNumber(s)
	if e != api.OK {
		return "", "", e
	}
	if shared > uint64(len(ahead)) {
		return "", "", api.ErrForm
	}
	if shared == 0 && more == 0 {
		return "", "", api.ErrEmpty
	}
	if more == 0 {
		return "", "", api.ErrOrder
	}
	if shared+more > 65535 {
		return "", "", api.ErrLong
	}
	if uint64(total)+shared+more > 1<<24 {
		return "", "", api.ErrFull
	}
	if more > uint64(len(s)) {
		return "", "", api.ErrShort
	}
	p := ahead[:shared] + s[:more]
	if int(shared) < len(ahead) && p[shared] == ahead[shared] {
		return "", "", api.ErrForm
	}
	if int(shared) < len(ahead) && p[shared] < ahead[shared] {
		return "", "", api.ErrOrder
	}
	return p, s[more:], api.OK
}

// wantTake is the patterns of the set that Take is to answer, or its error, as the chapter words it.
func wantTake(s string) ([]string, api.Errno) {
	if len(s) < 6 || s[:6] != head {
		return nil, api.ErrHead
	}
	n, s, e := takeNumber(s[6:])
	if e != api.OK {
		return nil, e
	}
	if n == 0 {
		return nil, api.ErrNone
	}
	if n > 65535 {
		return nil, api.ErrMany
	}
	var l []string
	p, total := "", 0
	for range n {
		p, s, e = takePattern(s, p, total)
		if e != api.OK {
			return nil, e
		}
		l = append(l, p)
		total += len(p)
	}
	if len(s) > 0 {
		return nil, api.ErrMore
	}
	return l, api.OK
}

// setOf is the set of texts that are one.
func setOf(t *testing.T, l ...string) *pats.Set {
	t.Helper()
	x, e := pats.New(l)
	if x == nil || e != api.OK {
		t.Fatalf("New of %d texts %.40q: %v; want a set", len(l), l[:min(len(l), 9)], e)
	}
	return x
}

func checkPut(t *testing.T, x *pats.Set, want string) {
	t.Helper()
	if s := book.Put(x); s != want {
		t.Errorf("Put: %d bytes %.60x; want %d: %.60x", len(s), s, len(want), want)
	}
}

// checkTaken asks for the set of bytes that are one's, of which the patterns are told in order.
func checkTaken(t *testing.T, s string, want []string) {
	t.Helper()
	x, e := book.Take(s)
	if x == nil || e != api.OK {
		t.Errorf("Take of %d bytes %.60x: a set: %v, %v; want %d patterns", len(s), s, x != nil, e, len(want))
		return
	}
	if l := x.List(); !slices.Equal(l, want) || x.Len() != len(want) || x.Total() != len(strings.Join(want, "")) {
		t.Errorf("Take of %d bytes %.60x: %d patterns %.40q; want %d: %.40q", len(s), s, len(l), l[:min(len(l), 9)], len(want), want[:min(len(want), 9)])
	}
}

// checkRefused asks for the set of bytes that are none's.
func checkRefused(t *testing.T, s string, want api.Errno) {
	t.Helper()
	if x, e := book.Take(s); x != nil || e != want {
		t.Errorf("Take of %d bytes %.60x: a set: %v, %v; want none, %v", len(s), s, x != nil, e, want)
	}
}

// checkTake asks for the set of any bytes, which must be those that are put of it.
func checkTake(t *testing.T, s string) {
	t.Helper()
	l, e := wantTake(s)
	if e != api.OK {
		checkRefused(t, s, e)
		return
	}
	checkTaken(t, s, l)
	checkPut(t, setOf(t, l...), s)
}

// 11.1: a set's bytes, by examples.
func TestPut(t *testing.T) {
	if book.Head != head {
		t.Errorf("Head: %x", book.Head)
	}
	long := strings.Repeat("x", 300)
	for _, x := range []struct {
		l []string
		s string
	}{
		{[]string{"a", "ab"}, "\x6a\x75\x72\x61\x74\x01\x02\x00\x01\x61\x01\x01\x62"},
		{[]string{"ab", "a"}, "\x6a\x75\x72\x61\x74\x01\x02\x00\x01\x61\x01\x01\x62"},
		{[]string{"a"}, "jurat\x01\x01\x00\x01a"},
		{[]string{"\x00"}, "jurat\x01\x01\x00\x01\x00"},
		{[]string{"b", "a"}, "jurat\x01\x02\x00\x01a\x00\x01b"},
		{[]string{"she", "he", "hers", "his"}, "jurat\x01\x04\x00\x02he\x02\x02rs\x01\x02is\x00\x03she"},
		{[]string{long, long + "yz"}, "jurat\x01\x02\x00\xac\x02" + long + "\xac\x02\x02yz"},
		{[]string{"a", "a\xff", "a\x00"}, "jurat\x01\x03\x00\x01a\x01\x01\x00\x01\x01\xff"},
	} {
		checkPut(t, setOf(t, x.l...), x.s)
		checkTaken(t, x.s, slices.Sorted(slices.Values(x.l)))
	}
}

// 11.1: a nil set has no bytes, and no bytes are not those of a set.
func TestNil(t *testing.T) {
	checkPut(t, nil, "")
	checkRefused(t, "", api.ErrHead)
	checkRefused(t, head+"\x00", api.ErrNone)
}

// 11.1: bytes that don't begin with Head, and those that end with it.
func TestHead(t *testing.T) {
	rest := "\x02\x00\x01a\x00\x01b"
	checkTaken(t, head+rest, []string{"a", "b"})
	checkRefused(t, head, api.ErrShort)
	for n := range len(head) {
		checkRefused(t, head[:n], api.ErrHead)
		checkRefused(t, head[n+1:]+rest, api.ErrHead)
		checkRefused(t, head[:n]+head[n+1:]+rest, api.ErrHead)
		for c := range 256 {
			if byte(c) == head[n] {
				continue
			}
			other := head[:n] + string([]byte{byte(c)}) + head[n+1:]
			checkRefused(t, other, api.ErrHead)
			checkRefused(t, other+rest, api.ErrHead)
		}
	}
	for _, s := range []string{" " + head + rest, "JURAT\x01" + rest, "jurat" + rest, "jurat\x02" + rest, "jurat\x00" + rest, "cert\x01" + rest, strings.Repeat("\x80", 9)} {
		checkRefused(t, s, api.ErrHead)
	}
	checkRefused(t, head+head, api.ErrForm)
}

// 11.1: which error there is, by examples, one at a time.
func TestFaults(t *testing.T) {
	high := func(n int) string { return strings.Repeat("\x80", n) }
	for _, x := range []struct {
		s    string
		want api.Errno
	}{
		// How many there are.
		{head + high(1), api.ErrShort},
		{head + high(8), api.ErrShort},
		{head + high(9), api.ErrLong},
		{head + "\x81\x00" + entry(0, 1, "a"), api.ErrForm},
		{file(0), api.ErrNone},
		{file(0) + entry(0, 1, "a"), api.ErrNone},
		{file(65536), api.ErrMany},
		{file(65536) + entry(0, 1, "a"), api.ErrMany},
		{file(math.MaxInt), api.ErrMany},
		// The numbers of a pattern.
		{file(1), api.ErrShort},
		{file(1, high(8)), api.ErrShort},
		{file(1, high(9)), api.ErrLong},
		{file(1, high(1)+"\x00\x01a"), api.ErrForm},
		{file(1, "\x00"), api.ErrShort},
		{file(1, "\x00"+high(8)), api.ErrShort},
		{file(1, "\x00"+high(9)), api.ErrLong},
		{file(1, "\x00\x81\x00a"), api.ErrForm},
		// What is shared.
		{file(1, entry(1, 1, "a")), api.ErrForm},
		{file(1, entry(math.MaxInt, 1, "a")), api.ErrForm},
		{file(2, entry(0, 2, "ab"), entry(3, 1, "c")), api.ErrForm},
		{file(2, entry(0, 2, "ab"), entry(math.MaxInt, 1, "c")), api.ErrForm},
		{file(3, entry(0, 3, "abc"), entry(1, 1, "c"), entry(3, 1, "c")), api.ErrForm},
		// What is more.
		{file(1, entry(0, 0, "")), api.ErrEmpty},
		{file(2, entry(0, 1, "a"), entry(0, 0, "")), api.ErrEmpty},
		{file(2, entry(0, 1, "a"), entry(1, 0, "")), api.ErrOrder},
		{file(2, entry(0, 2, "ab"), entry(1, 0, "")), api.ErrOrder},
		{file(1, entry(0, 65536, strings.Repeat("a", 65536))), api.ErrLong},
		{file(1, entry(0, 1, "")), api.ErrShort},
		{file(1, entry(0, 3, "ab")), api.ErrShort},
		{file(2, entry(0, 1, "a"), entry(0, 2, "b")), api.ErrShort},
		// The next byte.
		{file(2, entry(0, 1, "a"), entry(0, 1, "a")), api.ErrForm},
		{file(2, entry(0, 1, "a"), entry(0, 2, "ab")), api.ErrForm},
		{file(2, entry(0, 2, "ab"), entry(1, 2, "bc")), api.ErrForm},
		{file(2, entry(0, 1, "b"), entry(0, 1, "a")), api.ErrOrder},
		{file(2, entry(0, 2, "ab"), entry(1, 2, "ac")), api.ErrOrder},
		{file(2, entry(0, 1, "\x80"), entry(0, 1, "\x7f")), api.ErrOrder},
		{file(2, entry(0, 1, "\xff"), entry(0, 1, "\x00")), api.ErrOrder},
		// What is left.
		{file(1, entry(0, 1, "a"), "\x00"), api.ErrMore},
		{file(1, entry(0, 1, "a"), entry(0, 1, "b")), api.ErrMore},
		{file(1, entry(0, 1, "ab")), api.ErrMore},
		{file(2, entry(0, 1, "a"), entry(0, 1, "b"), head), api.ErrMore},
	} {
		checkRefused(t, x.s, x.want)
		if _, e := wantTake(x.s); e != x.want {
			t.Errorf("the tests take %.60x for %v", x.s, e)
		}
	}
}

// 11.1: of two errors that are there at once the first one is told.
func TestFirstFault(t *testing.T) {
	broken, cut, needless := strings.Repeat("\x80", 9), "\x80", "\x80\x00"
	a, b := entry(0, 2, "ab"), entry(0, 1, "b")
	for _, x := range []struct {
		s    string
		want api.Errno
	}{
		{"jurat\x02" + broken, api.ErrHead},
		{head + broken + broken, api.ErrLong},
		{head + needless + broken, api.ErrForm},
		{file(65536, entry(0, 0, "")), api.ErrMany},
		{file(1, needless+broken), api.ErrForm},
		{file(1, broken+needless), api.ErrLong},
		// The second number's error is ahead of all that is wrong with the first one.
		{file(1, number(1)+broken), api.ErrLong},
		{file(1, number(1)+cut), api.ErrShort},
		{file(1, number(1)), api.ErrShort},
		{file(1, number(1)+needless), api.ErrForm},
		{file(2, a, number(3)+broken), api.ErrLong},
		{file(2, a, number(0)+needless), api.ErrForm},
		// More shared than there is, ahead of all else.
		{file(1, entry(1, 0, "")), api.ErrForm},
		{file(2, a, entry(3, 0, "")), api.ErrForm},
		{file(2, a, entry(3, 65536, "")), api.ErrForm},
		{file(2, a, entry(65536, 1, "")), api.ErrForm},
		{file(2, a, entry(math.MaxInt, math.MaxInt, "")), api.ErrForm},
		{file(2, a, entry(3, 2, "")), api.ErrForm},
		// No bytes more, ahead of the next byte, which is another pattern's.
		{file(3, a, entry(0, 0, ""), b), api.ErrEmpty},
		{file(3, a, entry(1, 0, ""), b), api.ErrOrder},
		{file(2, b, entry(1, 0, ""), "a"), api.ErrOrder},
		// Too long, ahead of what is not there.
		{file(1, entry(0, 65536, "")), api.ErrLong},
		{file(1, entry(0, math.MaxInt, "a")), api.ErrLong},
		{file(2, a, entry(2, math.MaxInt, "a")), api.ErrLong},
		{file(2, a, entry(2, math.MaxInt-1, "a")), api.ErrLong},
		{file(2, a, entry(1, 65535, "b")), api.ErrLong},
		{file(2, a, entry(2, 65534, "b")), api.ErrLong},
		{file(2, a, entry(2, 65533, "b")), api.ErrShort},
		// Too few bytes, ahead of the next one.
		{file(2, b, entry(0, 2, "a")), api.ErrShort},
		{file(2, b, entry(0, 2, "b")), api.ErrShort},
		{file(2, b, entry(0, 2, "c")), api.ErrShort},
		// A pattern's error, ahead of what stands behind it.
		{file(3, b, entry(0, 1, "a"), entry(0, 0, "")), api.ErrOrder},
		{file(3, b, entry(0, 1, "b"), broken), api.ErrForm},
		{file(3, b, entry(1, 1, "b"), broken), api.ErrLong},
		{file(2, b, entry(0, 1, "a"), a), api.ErrOrder},
		{file(2, b, entry(0, 1, "b"), a), api.ErrForm},
		{file(1, entry(0, 1, "b"), broken), api.ErrMore},
	} {
		checkRefused(t, x.s, x.want)
		if _, e := wantTake(x.s); e != x.want {
			t.Errorf("the tests take %.60x for %v", x.s, e)
		}
	}
}

// 11.1, 11.2: all short texts of the bytes that files are made of, and how many of them are files.
func TestShortTexts(t *testing.T) {
	for _, x := range []struct {
		alphabet string
		most     int
	}{
		{"\x00\x01\x02\x80", 8},
		{"\x00\x01ab", 8},
		{"\x00\x01\x02\x03a\xff", 7},
	} {
		texts(x.alphabet, x.most, func(s string) { checkTake(t, head+s) })
	}
	texts("\x00\x01\x02ab", 7, func(s string) { checkTake(t, head+"\x02\x00\x01"+s) })
	texts("\x00\x01\x02ab", 7, func(s string) { checkTake(t, head+"\x02\x00\x03aba"+s) })
	texts("\x00\x01\x02b", 8, func(s string) { checkTake(t, head+"\x03\x00\x02ab\x01\x01c"+s) })
	texts("jurat\x01", 6, func(s string) { checkTake(t, s) })
}

// 11.1, 11.2: files of which a byte is another one, or lacks, or is there twice, and files that are cut off, or cut out of.
func TestChanged(t *testing.T) {
	for _, l := range few() {
		s := bytesOf(l)
		checkTake(t, s)
		for i := range len(s) {
			for c := range 256 {
				checkTake(t, s[:i]+string([]byte{byte(c)})+s[i+1:])
				checkTake(t, s[:i]+string([]byte{byte(c)})+s[i:])
			}
			checkTake(t, s[:i])
			checkTake(t, s[:i]+s[i+1:])
			checkTake(t, s[:i]+s[i:i+1]+s[i:])
			if i+2 <= len(s) {
				checkTake(t, s[:i]+s[i+1:i+2]+s[i:i+1]+s[i+2:])
			}
		}
		for c := range 256 {
			checkRefused(t, s+string([]byte{byte(c)}), api.ErrMore)
		}
		checkRefused(t, s+s, api.ErrMore)
		for n := len(head); n < len(s); n++ {
			checkRefused(t, s[:n], api.ErrShort)
		}
	}
}

// 11.1, 11.2: all sets of few short texts, there and back; no two have the same bytes.
func TestSets(t *testing.T) {
	met := map[string]int{}
	sets := 0
	for _, some := range [][]string{
		{"a", "aa", "aab", "ab", "aba", "b", "ba", "bb", "bbb"},
		{"\x00\x00", "\x00\x00\x00", "\x00\x01", "\x01\x00", "\x7f\xff", "\x80\x00", "\x80\x7f", "\xff", "\xff\xff"},
		{"abc", "abcabc", "abcabd", "abd", "jurat", "jurat\x01", "jurat\x01\x00", "jus"},
	} {
		subsets(some, func(l []string) {
			x, s := setOf(t, l...), bytesOf(l)
			checkPut(t, x, s)
			checkTaken(t, s, l)
			met[book.Put(x)]++
			sets++
		})
	}
	if len(met) != sets {
		t.Errorf("%d sets have %d files", sets, len(met))
	}
}

// 11.1: all bytes, each a pattern, and each behind another pattern's byte: what is less, and what is not, goes by bytes from 0 to 255.
func TestBytes(t *testing.T) {
	var l []string
	for c := range 256 {
		l = append(l, string([]byte{byte(c)}))
	}
	checkPut(t, setOf(t, l...), bytesOf(l))
	checkTaken(t, bytesOf(l), l)
	for _, a := range l {
		for _, b := range l {
			flat := file(2, entry(0, 1, a), entry(0, 1, b))
			deep := file(2, entry(0, 3, "xy"+a), entry(2, 2, b+"z"))
			switch {
			case a == b:
				checkRefused(t, flat, api.ErrForm)
				checkRefused(t, deep, api.ErrForm)
			case a > b:
				checkRefused(t, flat, api.ErrOrder)
				checkRefused(t, deep, api.ErrOrder)
			default:
				checkTaken(t, flat, []string{a, b})
				checkTaken(t, deep, []string{"xy" + a, "xy" + b + "z"})
			}
		}
	}
}

// 11.1: how many patterns there may be.
func TestMany(t *testing.T) {
	var l []string
	for i := range api.MaxPatterns + 1 {
		l = append(l, strconv.Itoa(100_000+i))
	}
	most := bytesOf(l[1:])
	checkPut(t, setOf(t, l[1:]...), most)
	checkTaken(t, most, l[1:])
	checkRefused(t, bytesOf(l), api.ErrMany)
	checkRefused(t, bytesOf(l)[:9], api.ErrMany)
	checkRefused(t, most[:len(most)-1], api.ErrShort)
	checkRefused(t, most+"\x00", api.ErrMore)
	for _, n := range []int{1 << 16, 1<<16 + 1, 1 << 32, 1<<32 + 1, api.MaxStream, math.MaxInt - 1, math.MaxInt} {
		checkRefused(t, file(n, entry(0, 1, "a")), api.ErrMany)
	}
}

// 11.1: how long a pattern may be, by itself and with what it shares.
func TestLong(t *testing.T) {
	s := strings.Repeat("a", api.MaxPattern)
	checkPut(t, setOf(t, s), file(1, entry(0, api.MaxPattern, s)))
	checkTaken(t, file(1, entry(0, api.MaxPattern, s)), []string{s})
	checkRefused(t, file(1, entry(0, api.MaxPattern+1, s+"a")), api.ErrLong)
	for _, shared := range []int{1, 2, 127, 128, 32767, 65533, 65534} {
		more := api.MaxPattern - shared
		l := []string{s[:shared], s[:shared] + strings.Repeat("b", more)}
		checkPut(t, setOf(t, l...), bytesOf(l))
		checkTaken(t, bytesOf(l), l)
		begin := entry(0, shared, s[:shared])
		checkRefused(t, file(2, begin, entry(shared, more+1, strings.Repeat("b", more+1))), api.ErrLong)
		for _, n := range []int{65536, 1 << 31, 1 << 32, 1<<32 + 1, api.MaxStream, math.MaxInt - shared, math.MaxInt - shared + 1, math.MaxInt} {
			checkRefused(t, file(2, begin, entry(shared, n, "b")), api.ErrLong)
		}
	}
	checkRefused(t, file(2, entry(0, api.MaxPattern, s), entry(api.MaxPattern, 1, "a")), api.ErrLong)
	checkRefused(t, file(2, entry(0, api.MaxPattern, s), entry(api.MaxPattern, 0, "")), api.ErrOrder)
	checkTaken(t, file(2, entry(0, api.MaxPattern, s), entry(api.MaxPattern-1, 1, "b")), []string{s, s[1:] + "b"})
}

// 11.1: how many bytes all patterns may have, which are far more than those of the file; that this counts behind what is too long, and ahead of what is not there and of the next byte.
func TestFull(t *testing.T) {
	// 256 of the longest ones lack 256 bytes to the limit.
	begin := strings.Repeat("a", api.MaxPattern-1)
	l := []string{begin + "\x00"}
	entries := entry(0, api.MaxPattern, l[0])
	for c := 1; c < 256; c++ {
		last := string([]byte{byte(c)})
		l = append(l, begin+last)
		entries += entry(api.MaxPattern-1, 1, last)
	}
	alone, full := strings.Repeat("b", 256), append(slices.Clone(l), strings.Repeat("b", 256))
	checkPut(t, setOf(t, full...), file(257, entries, entry(0, 256, alone)))
	checkTaken(t, file(257, entries, entry(0, 256, alone)), full)
	shared := append(slices.Clone(l), begin[:100]+strings.Repeat("b", 156))
	checkPut(t, setOf(t, shared...), file(257, entries, entry(100, 156, alone[:156])))
	checkTaken(t, file(257, entries, entry(100, 156, alone[:156])), shared)
	for _, x := range []struct {
		s    string
		want api.Errno
	}{
		{entry(0, 256, alone[1:]), api.ErrShort},
		{entry(0, 257, alone+"b"), api.ErrFull},
		{entry(0, 257, ""), api.ErrFull},
		{entry(0, 257, strings.Repeat("a", 257)), api.ErrFull},
		{entry(0, 257, strings.Repeat("A", 257)), api.ErrFull},
		{entry(100, 157, alone[:157]), api.ErrFull},
		{entry(256, 1, "b"), api.ErrFull},
		{entry(255, 1, "b"), api.OK},
		{entry(api.MaxPattern-1, 1, "b"), api.ErrFull},
		{entry(api.MaxPattern, 1, "b"), api.ErrLong},
		{entry(0, api.MaxPattern, ""), api.ErrFull},
		{entry(0, api.MaxPattern+1, ""), api.ErrLong},
		{entry(0, 0, ""), api.ErrEmpty},
		{entry(256, 0, ""), api.ErrOrder},
		{entry(api.MaxPattern+1, 257, ""), api.ErrForm},
		{entry(0, 256, alone) + "b", api.ErrMore},
	} {
		s := file(257, entries, x.s)
		if x.want == api.OK {
			checkTaken(t, s, append(slices.Clone(l), begin[:255]+"b"))
			continue
		}
		checkRefused(t, s, x.want)
	}
	// One byte more, in a pattern that is no more the last one but one.
	checkRefused(t, file(258, entries, entry(0, 256, alone), entry(0, 1, "c")), api.ErrFull)
	checkRefused(t, file(258, entries, entry(0, 256, alone), entry(0, 0, "")), api.ErrEmpty)
	checkRefused(t, file(258, entries, entry(0, 255, alone[1:]), entry(0, 2, "c")), api.ErrFull)
	checkRefused(t, file(258, entries, entry(0, 255, alone[1:]), entry(0, 1, "")), api.ErrShort)
}

// R4: a set that is taken keeps no piece of the bytes that were handed in, as it would keep, too, all that these were cut from.
func TestKept(t *testing.T) {
	s := strings.Clone(bytesOf([]string{"abcdefgh", "b", "bcd"}))
	x, e := book.Take(s)
	if e != api.OK {
		t.Fatal(e)
	}
	first := uintptr(unsafe.Pointer(unsafe.StringData(s)))
	for id := range x.Len() {
		p, _ := x.At(id)
		if at := uintptr(unsafe.Pointer(unsafe.StringData(p))); at >= first && at < first+uintptr(len(s)) {
			t.Errorf("the pattern %q lies in the bytes that were handed in", p)
		}
	}
}

// R3, R5: the same again, whatever was refused; a set stays as it is when it is put.
func TestAgain(t *testing.T) {
	l := []string{"a", "ab", "b"}
	x, s := setOf(t, l...), bytesOf(l)
	for range 3 {
		checkPut(t, x, s)
		checkRefused(t, s+"\x00", api.ErrMore)
		checkTaken(t, s, l)
		checkRefused(t, s[:len(s)-1], api.ErrShort)
		checkPut(t, setOf(t, "c"), file(1, entry(0, 1, "c")))
		if !slices.Equal(x.List(), l) {
			t.Fatalf("the set is now %q", x.List())
		}
	}
}
