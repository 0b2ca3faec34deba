package pats_test

import (
	"math"
	"slices"
	"strconv"
	"strings"
	"testing"
	"unsafe"

	"jurat/api"
	"jurat/pats"
)

// all is all bytes, from the least one on.
func all() string {
	var b []byte
	for c := range 256 {
		b = append(b, byte(c))
	}
	return string(b)
}

// texts is all texts of at most so many bytes out of some, the shortest first.
func texts(some string, most int) []string {
	l := []string{""}
	for i := 0; i < len(l); i++ {
		if len(l[i]) == most {
			continue
		}
		for k := range len(some) {
			l = append(l, l[i]+some[k:k+1])
		}
	}
	return l
}

// lists calls f with each list of at most so many texts out of some.
func lists(some []string, most int, f func([]string)) {
	var grow func([]string)
	grow = func(l []string) {
		f(slices.Clone(l))
		if len(l) == most {
			return
		}
		for _, s := range some {
			grow(append(slices.Clone(l), s))
		}
	}
	grow(nil)
}

// numbers is so many texts, no two of them the same, in order.
func numbers(n int) []string {
	var l []string
	for i := range n {
		l = append(l, strconv.Itoa(1_000_000+i))
	}
	return l
}

// longs is so many texts, as long as a pattern may be, no two of them the same, in order.
func longs(n int) []string {
	var l []string
	for i := range n {
		l = append(l, strings.Repeat("a", api.MaxPattern-3)+strconv.Itoa(100+i))
	}
	return l
}

// wantFault is why texts are no set, as the chapter words it.
func wantFault(l []string) api.Errno {
	if len(l) == 0 {
		return api.ErrNone
	}
	if len(l) > 65535 {
		return api.ErrMany
	}
	for _, s := range l {
		if len(s) < 1 {
			return api.ErrEmpty
		}
		if len(s) > 65535 {
			return api.ErrLong
		}
	}
	if len(strings.Join(l, "")) > 1<<24 {
		return api.ErrFull
	}
	for i, b := range l {
		if slices.Contains(l[:i], b) {
			return api.ErrTwice
		}
	}
	return api.OK
}

// inOrder is texts in order, as the library knows it.
func inOrder(l []string) []string {
	l = slices.Clone(l)
	slices.Sort(l)
	return l
}

// setOf is the set of texts that are one.
func setOf(t *testing.T, l ...string) *pats.Set {
	t.Helper()
	x, e := pats.New(l)
	if x == nil || e != api.OK {
		t.Fatalf("New of %d texts %.40q: %v; want a set", len(l), l[:min(len(l), 9)], e)
	}
	return x
}

// checkFault asks for the set of texts that are none.
func checkFault(t *testing.T, l []string, want api.Errno) {
	t.Helper()
	if x, e := pats.New(l); x != nil || e != want {
		t.Errorf("New of %d texts %.40q: a set: %v, %v; want none, %v", len(l), l[:min(len(l), 9)], x != nil, e, want)
	}
}

func checkAt(t *testing.T, x *pats.Set, id int, want string, wok bool) {
	t.Helper()
	if s, ok := x.At(id); s != want || ok != wok {
		t.Errorf("At(%d): %.40q, %v; want %.40q, %v", id, s, ok, want, wok)
	}
}

func checkFind(t *testing.T, x *pats.Set, s string, want int, wok bool) {
	t.Helper()
	if id, ok := x.Find(s); id != want || ok != wok {
		t.Errorf("Find(%.40q): %d, %v; want %d, %v", s, id, ok, want, wok)
	}
}

func checkList(t *testing.T, x *pats.Set, want []string) {
	t.Helper()
	if l := x.List(); !slices.Equal(l, want) {
		t.Fatalf("List: %d texts %.40q; want %d: %.40q", len(l), l[:min(len(l), 9)], len(want), want[:min(len(want), 9)])
	}
}

// checkCounts asks how many patterns there are, how long the shortest and the longest one is, and how many bytes all have.
func checkCounts(t *testing.T, x *pats.Set, n, least, most, total int) {
	t.Helper()
	if k := x.Len(); k != n {
		t.Errorf("Len: %d; want %d", k, n)
	}
	if k := x.Least(); k != least {
		t.Errorf("Least: %d; want %d", k, least)
	}
	if k := x.Most(); k != most {
		t.Errorf("Most: %d; want %d", k, most)
	}
	if k := x.Total(); k != total {
		t.Errorf("Total: %d; want %d", k, total)
	}
}

// wrongIds is numbers that no pattern of n has.
func wrongIds(n int) []int {
	return []int{-1, -2, -n, -n - 1, math.MinInt, math.MinInt + 1, n, n + 1, 2*n + 1, api.MaxPatterns, api.MaxPatterns + 1, math.MaxInt - 1, math.MaxInt}
}

// checkSet asks all that 10.2 tells of a set whose patterns are those of a list in order.
func checkSet(t *testing.T, x *pats.Set, want []string) {
	t.Helper()
	checkList(t, x, want)
	least, most := 0, 0
	for id, s := range want {
		checkAt(t, x, id, s, true)
		checkFind(t, x, s, id, true)
		if least == 0 || len(s) < least {
			least = len(s)
		}
		if len(s) > most {
			most = len(s)
		}
	}
	checkCounts(t, x, len(want), least, most, len(strings.Join(want, "")))
	for _, id := range wrongIds(len(want)) {
		if id < 0 || id >= len(want) {
			checkAt(t, x, id, "", false)
		}
	}
	checkFind(t, x, "", 0, false)
}

// 10.1: texts that are no set, by examples: of several errors the first one is told, and of several texts that are no patterns the first one's.
func TestFaults(t *testing.T) {
	longest := strings.Repeat("a", api.MaxPattern)
	long := longest + "a"
	for _, x := range []struct {
		l    []string
		want api.Errno
	}{
		{nil, api.ErrNone},
		{[]string{}, api.ErrNone},
		{[]string{""}, api.ErrEmpty},
		{[]string{"a", ""}, api.ErrEmpty},
		{[]string{"", "a", ""}, api.ErrEmpty},
		{[]string{"a", "a", ""}, api.ErrEmpty},
		{[]string{"", "", "a"}, api.ErrEmpty},
		{[]string{long}, api.ErrLong},
		{[]string{"a", long}, api.ErrLong},
		{[]string{"a", "a", long}, api.ErrLong},
		{[]string{long, long}, api.ErrLong},
		{[]string{strings.Repeat("a", 1<<24+1)}, api.ErrLong},
		{[]string{"", long}, api.ErrEmpty},
		{[]string{long, ""}, api.ErrLong},
		{[]string{"a", "b", long, "", "a"}, api.ErrLong},
		{[]string{"a", "b", "", long, "a"}, api.ErrEmpty},
		{[]string{"a", "a"}, api.ErrTwice},
		{[]string{"a", "b", "a"}, api.ErrTwice},
		{[]string{"b", "ab", "a", "ab"}, api.ErrTwice},
		{[]string{"\x00", "\x00"}, api.ErrTwice},
		{[]string{longest, "a", longest}, api.ErrTwice},
	} {
		checkFault(t, x.l, x.want)
	}
}

// 10.1: how many patterns there may be, and that more of them count ahead of all that is wrong with them.
func TestMany(t *testing.T) {
	l := numbers(api.MaxPatterns + 1)
	checkSet(t, setOf(t, l[1:]...), l[1:])
	checkFault(t, l, api.ErrMany)
	for _, first := range []string{"", l[1], strings.Repeat("a", api.MaxPattern+1)} {
		checkFault(t, append([]string{first}, l[1:]...), api.ErrMany)
	}
	checkFault(t, append(longs(300), l...), api.ErrMany)
	checkFault(t, slices.Repeat([]string{""}, api.MaxPatterns+1), api.ErrMany)
	checkFault(t, slices.Repeat([]string{""}, api.MaxPatterns), api.ErrEmpty)
	checkFault(t, slices.Repeat([]string{"a"}, api.MaxPatterns), api.ErrTwice)
}

// 10.1: how long a pattern may be.
func TestLong(t *testing.T) {
	s := strings.Repeat("a", api.MaxPattern)
	checkSet(t, setOf(t, s), []string{s})
	checkSet(t, setOf(t, "b", s, "a"), []string{"a", s, "b"})
	checkFault(t, []string{s + "a"}, api.ErrLong)
	checkFault(t, []string{"b", s + "b", "a"}, api.ErrLong)
}

// 10.1: how many bytes all may have, and that this counts behind each text that is no pattern, and ahead of two that are the same.
func TestFull(t *testing.T) {
	// 256 of the longest ones lack 256 bytes to the limit.
	l := longs(256)
	rest := strings.Repeat("b", api.MaxTotal-256*api.MaxPattern)
	most := append(slices.Clone(l), rest)
	checkSet(t, setOf(t, most...), most)
	slices.Reverse(most)
	checkList(t, setOf(t, most...), append(slices.Clone(l), rest))
	checkFault(t, append(slices.Clone(l), rest+"b"), api.ErrFull)
	checkFault(t, append([]string{"a"}, append(l, rest)...), api.ErrFull)
	checkFault(t, longs(257), api.ErrFull)
	checkFault(t, append(longs(257), ""), api.ErrEmpty)
	checkFault(t, append(longs(257), strings.Repeat("a", api.MaxPattern+1)), api.ErrLong)
	checkFault(t, append(longs(257), longs(257)...), api.ErrFull)
	checkFault(t, append(longs(256), longs(1)...), api.ErrFull)
	checkFault(t, slices.Repeat(longs(1), 257), api.ErrFull)
	checkFault(t, slices.Repeat(longs(1), 256), api.ErrTwice)
	// So many bytes go round in 32 bits.
	checkFault(t, slices.Repeat(longs(1), 32769), api.ErrFull)
	checkFault(t, slices.Repeat(longs(1), api.MaxPatterns), api.ErrFull)
}

// 10.2: what a set tells, by examples.
func TestSet(t *testing.T) {
	for _, x := range []struct {
		l, want            []string
		least, most, total int
	}{
		{[]string{"b", "ab", "a"}, []string{"a", "ab", "b"}, 1, 2, 4},
		{[]string{"a"}, []string{"a"}, 1, 1, 1},
		{[]string{"abc"}, []string{"abc"}, 3, 3, 3},
		{[]string{"he", "she", "hers"}, []string{"he", "hers", "she"}, 2, 4, 9},
		{[]string{"bbb", "aaaaa", "ab", "b"}, []string{"aaaaa", "ab", "b", "bbb"}, 1, 5, 11},
		{[]string{"\xff", "\x80", "\x7f", "\x00"}, []string{"\x00", "\x7f", "\x80", "\xff"}, 1, 1, 4},
		{[]string{"a\x00", "a", "\x00a", "\x00"}, []string{"\x00", "\x00a", "a", "a\x00"}, 1, 2, 6},
		{[]string{"\u00e4", "z", "B"}, []string{"B", "z", "\u00e4"}, 1, 2, 4},
	} {
		set := setOf(t, x.l...)
		checkSet(t, set, x.want)
		checkCounts(t, set, len(x.want), x.least, x.most, x.total)
	}
}

// 10.2: the numbers of patterns, by the chapter's example, and of texts that are none: also of those that some begin or end with, and of longer ones.
func TestFind(t *testing.T) {
	x := setOf(t, "b", "ab", "a", "bcd")
	checkAt(t, x, 1, "ab", true)
	for id, s := range []string{"a", "ab", "b", "bcd"} {
		checkFind(t, x, s, id, true)
	}
	for _, s := range []string{"", "A", "aa", "aba", "ab\x00", "\x00", "bc", "cd", "bcde", "c", "d", "\xff", strings.Repeat("b", api.MaxPattern), strings.Repeat("c", api.MaxPattern+1)} {
		checkFind(t, x, s, 0, false)
	}
}

// 10.1, 10.2: all short lists of short texts, the empty one and one too long among them.
func TestShortLists(t *testing.T) {
	for _, x := range []struct {
		some []string
		most int
	}{
		{texts("ab", 2), 4},
		{texts("\x00\x80\xff", 1), 5},
		{[]string{"a", "b", "ab", "abc", "bc", "c"}, 5},
		{[]string{"", "a", strings.Repeat("a", api.MaxPattern), strings.Repeat("a", api.MaxPattern+1)}, 4},
	} {
		lists(x.some, x.most, func(l []string) {
			if e := wantFault(l); e != api.OK {
				checkFault(t, l, e)
				return
			}
			set, sorted := setOf(t, l...), inOrder(l)
			checkSet(t, set, sorted)
			for _, s := range x.some {
				if !slices.Contains(l, s) {
					checkFind(t, set, s, 0, false)
				}
			}
		})
	}
}

// 10.2: all bytes, each a pattern, and each ahead of one and behind one.
func TestBytes(t *testing.T) {
	var alone, ahead, behind []string
	for _, c := range []byte(all()) {
		alone = append(alone, string([]byte{c}))
		ahead = append(ahead, string([]byte{c, 'a'}))
		behind = append(behind, string([]byte{'a', c}))
	}
	checkSet(t, setOf(t, alone...), alone)
	checkSet(t, setOf(t, ahead...), ahead)
	checkSet(t, setOf(t, behind...), behind)
	backward := slices.Clone(alone)
	slices.Reverse(backward)
	checkSet(t, setOf(t, backward...), alone)
	for i, s := range alone {
		x := setOf(t, slices.Concat(alone[:i], alone[i+1:])...)
		checkFind(t, x, s, 0, false)
		checkList(t, x, slices.Concat(alone[:i], alone[i+1:]))
	}
}

// 10.2: a nil set has no patterns.
func TestNil(t *testing.T) {
	var x *pats.Set
	checkSet(t, x, nil)
	checkCounts(t, x, 0, 0, 0, 0)
	checkAt(t, x, 0, "", false)
	for _, s := range texts("a\x00", 2) {
		checkFind(t, x, s, 0, false)
	}
	if x.List() != nil {
		t.Error("List of a nil set: not nil")
	}
}

// 10.3: the order in which patterns come does not matter, and a set's own list is the list of that set.
func TestOrder(t *testing.T) {
	lists([]string{"a", "b", "ab", "ba", "abc"}, 5, func(l []string) {
		if wantFault(l) != api.OK {
			return
		}
		want := inOrder(l)
		x := setOf(t, l...)
		checkList(t, x, want)
		checkSet(t, setOf(t, x.List()...), want)
	})
	l := numbers(10_000)
	backward := slices.Clone(l)
	slices.Reverse(backward)
	checkSet(t, setOf(t, backward...), l)
	checkList(t, setOf(t, setOf(t, backward...).List()...), l)
}

// R4: what is handed in is not changed, and what lies behind its length is neither read nor written.
func TestArguments(t *testing.T) {
	l := []string{"b", "ab", "a", "ab", ""}
	want := slices.Clone(l)
	checkSet(t, setOf(t, l[:3]...), []string{"a", "ab", "b"})
	checkFault(t, l[:4], api.ErrTwice)
	checkFault(t, l, api.ErrEmpty)
	checkFault(t, l[:0], api.ErrNone)
	if !slices.Equal(l, want) {
		t.Errorf("what was handed in is now %q", l)
	}
}

// R4: a set shares no memory with the list that was handed in, nor with those that it answers, and these share none with one another.
func TestMemory(t *testing.T) {
	l := []string{"a", "ab", "b"}
	x := setOf(t, l...)
	clear(l)
	checkSet(t, x, []string{"a", "ab", "b"})
	a, b := x.List(), x.List()
	clear(a[:cap(a)])
	if !slices.Equal(b, []string{"a", "ab", "b"}) {
		t.Errorf("lists of List share memory: %q", b)
	}
	checkSet(t, x, []string{"a", "ab", "b"})
}

// A set keeps no text that was handed in, as it would keep, too, all that the text was cut from.
func TestKept(t *testing.T) {
	l := strings.Fields(strings.Repeat("x", 1<<10) + " abc abcd b")[1:]
	x := setOf(t, l...)
	for _, s := range l {
		id, ok := x.Find(s)
		kept, _ := x.At(id)
		if !ok || kept != s {
			t.Errorf("At(%d): %q; want %q", id, kept, s)
		}
		if unsafe.StringData(kept) == unsafe.StringData(s) {
			t.Errorf("the text %q is kept, that was handed in", s)
		}
	}
}

// R5: the same again, and sets know nothing of each other, nor of what was refused.
func TestAgain(t *testing.T) {
	x := setOf(t, "b", "ab", "a")
	for range 3 {
		checkFault(t, []string{"a", "b", "a"}, api.ErrTwice)
		y := setOf(t, "c", "abcd")
		checkSet(t, x, []string{"a", "ab", "b"})
		checkSet(t, y, []string{"abcd", "c"})
		checkSet(t, setOf(t, "ab", "a", "b"), []string{"a", "ab", "b"})
		checkFault(t, nil, api.ErrNone)
	}
}
