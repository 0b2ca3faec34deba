package shift_test

import (
	"slices"
	"strconv"
	"strings"
	"testing"

	"jurat/api"
	"jurat/pats"
	"jurat/shift"
)

// texts is all texts of at most so many bytes out of some, the shortest first.
func texts(some string, most int) []string {
	l := []string{""}
	for i := 0; i < len(l); i++ {
		if len(l[i]) == most {
			continue
		}
		for k := range len(some) {
			l = append(l, l[i]+some[k:k+1])
		}
	}
	return l
}

// subsets calls f with each list of some texts that has one at least, each at most once.
func subsets(some []string, f func([]string)) {
	for bits := 1; bits < 1<<len(some); bits++ {
		var l []string
		for i, s := range some {
			if bits>>i&1 == 1 {
				l = append(l, s)
			}
		}
		f(l)
	}
}

// all is all bytes, from the least one on.
func all() string {
	var b []byte
	for c := range 256 {
		b = append(b, byte(c))
	}
	return string(b)
}

// tableOf is the table of the set of texts that are one.
func tableOf(t *testing.T, l ...string) *shift.Table {
	t.Helper()
	x, e := pats.New(l)
	if x == nil || e != api.OK {
		t.Fatalf("pats.New of %d texts %.40q: %v; want a set", len(l), l[:min(len(l), 9)], e)
	}
	return shift.New(x)
}

// wantLeast is how long the shortest of the patterns is.
func wantLeast(l []string) int {
	least := len(l[0])
	for _, s := range l {
		least = min(least, len(s))
	}
	return least
}

// wantFirst is a byte's shift: how far it stands ahead of a pattern's last byte, of all patterns, if that is less than the shortest one is long.
func wantFirst(l []string, c byte) int {
	first := wantLeast(l)
	for _, s := range l {
		if i := strings.LastIndexByte(s, c); i >= 0 {
			first = min(first, len(s)-1-i)
		}
	}
	return first
}

// wantEnds is the ends of s that the chapter's way of going through it tells.
func wantEnds(l []string, s string) []int {
	var ends []int
	e := wantLeast(l)
	for e <= len(s) {
		if n := wantFirst(l, s[e-1]); n > 0 {
			e += n
			continue
		}
		ends = append(ends, e)
		e++
	}
	return ends
}

// endsThere is whether one of the patterns ends at an end of s.
func endsThere(l []string, s string, e int) bool {
	return slices.ContainsFunc(l, func(p string) bool {
		return strings.HasSuffix(s[:e], p)
	})
}

func checkLeast(t *testing.T, x *shift.Table, want int) {
	t.Helper()
	if n := x.Least(); n != want {
		t.Errorf("Least: %d; want %d", n, want)
	}
}

// checkByte asks for a byte's shift, and whether it is foreign.
func checkByte(t *testing.T, x *shift.Table, c byte, first int, foreign bool) {
	t.Helper()
	if n := x.First(c); n != first {
		t.Errorf("First(%q): %d; want %d", c, n, first)
	}
	if ok := x.Foreign(c); ok != foreign {
		t.Errorf("Foreign(%q): %v; want %v", c, ok, foreign)
	}
}

func checkEnds(t *testing.T, x *shift.Table, s string, want []int) {
	t.Helper()
	if l := x.Ends(s); !slices.Equal(l, want) {
		t.Errorf("Ends of %d bytes %.40q: %d ends %v; want %d: %v", len(s), s, len(l), l[:min(len(l), 9)], len(want), want[:min(len(want), 9)])
	}
}

// checkTable asks all shifts of the set that has these patterns.
func checkTable(t *testing.T, l []string) *shift.Table {
	t.Helper()
	x := tableOf(t, l...)
	least := wantLeast(l)
	checkLeast(t, x, least)
	for c := range 256 {
		first := wantFirst(l, byte(c))
		checkByte(t, x, byte(c), first, first == least)
	}
	if t.Failed() {
		t.Fatalf("of the %d patterns %.40q", len(l), l[:min(len(l), 9)])
	}
	return x
}

// checkNone asks a table without patterns.
func checkNone(t *testing.T, x *shift.Table) {
	t.Helper()
	checkLeast(t, x, 0)
	for c := range 256 {
		checkByte(t, x, byte(c), 0, false)
	}
	for _, s := range []string{"", "a", "\x00", all(), strings.Repeat("a", api.MaxPattern+1)} {
		checkEnds(t, x, s, nil)
	}
}

// checkCleared asks what follows (13.3) of a table, and of the ends that it tells of s.
func checkCleared(t *testing.T, x *shift.Table, l []string, s string) {
	t.Helper()
	told := x.Ends(s)
	for e := 1; e <= len(s); e++ {
		n := x.First(s[e-1])
		for k := e; k < e+n && k <= len(s); k++ {
			if endsThere(l, s, k) {
				t.Errorf("of %q, in %q: the byte of the end %d has the shift %d, but a pattern ends at %d", l, s, e, n, k)
			}
		}
		if endsThere(l, s, e) && !slices.Contains(told, e) {
			t.Errorf("of %q, in %q: a pattern ends at %d; Ends: %v", l, s, e, told)
		}
	}
}

// 13.1, 13.2: the chapter's example.
func TestExample(t *testing.T) {
	x := tableOf(t, "abc", "bc")
	checkLeast(t, x, 2)
	checkByte(t, x, 'c', 0, false)
	checkByte(t, x, 'b', 1, false)
	checkByte(t, x, 'a', 2, true)
	checkByte(t, x, 'x', 2, true)
	checkEnds(t, x, "xabcx", []int{4})
}

// 13.1: shifts, by examples: of several distances the least one counts, of one pattern and of all, and none that the shortest one has not.
func TestFirst(t *testing.T) {
	type told struct {
		c       byte
		first   int
		foreign bool
	}
	for _, x := range []struct {
		l     []string
		least int
		all   []told
	}{
		{[]string{"a"}, 1, []told{{'a', 0, false}, {'b', 1, true}, {'A', 1, true}, {0, 1, true}}},
		{[]string{"abc"}, 3, []told{{'a', 2, false}, {'b', 1, false}, {'c', 0, false}, {'d', 3, true}}},
		{[]string{"abab"}, 4, []told{{'a', 1, false}, {'b', 0, false}, {'c', 4, true}}},
		{[]string{"abbb"}, 4, []told{{'a', 3, false}, {'b', 0, false}}},
		{[]string{"xab", "b"}, 1, []told{{'b', 0, false}, {'a', 1, true}, {'x', 1, true}}},
		{[]string{"xyzab", "bb"}, 2, []told{{'b', 0, false}, {'a', 1, false}, {'z', 2, true}, {'x', 2, true}}},
		{[]string{"axxx", "yyya", "zazz"}, 4, []told{{'a', 0, false}, {'x', 0, false}, {'y', 1, false}, {'z', 0, false}}},
		{[]string{"yxya", "zazz", "axyy"}, 4, []told{{'a', 0, false}, {'x', 2, false}}},
		{[]string{"he", "she", "his", "hers"}, 2, []told{{'e', 0, false}, {'s', 0, false}, {'h', 1, false}, {'i', 1, false}, {'r', 1, false}, {'t', 2, true}}},
		{[]string{"\x00\xff\x80", "\x80\x00\x7f"}, 3, []told{{0, 1, false}, {0x7f, 0, false}, {0x80, 0, false}, {0xff, 1, false}, {1, 3, true}}},
		{[]string{"\u00e4\u00a4"}, 4, []told{{0xa4, 0, false}, {0xc2, 1, false}, {0xc3, 3, false}, {0xe4, 4, true}}},
	} {
		table := tableOf(t, x.l...)
		checkLeast(t, table, x.least)
		for _, w := range x.all {
			checkByte(t, table, w.c, w.first, w.foreign)
		}
		checkTable(t, x.l)
	}
}

// 13.2: ends, by examples: where one begins, how far one goes, and where one ends.
func TestEnds(t *testing.T) {
	for _, x := range []struct {
		l    []string
		s    string
		want []int
	}{
		{[]string{"a"}, "", nil},
		{[]string{"a"}, "a", []int{1}},
		{[]string{"a"}, "b", nil},
		{[]string{"a"}, "aabaa", []int{1, 2, 4, 5}},
		{[]string{"ab"}, "b", nil},
		{[]string{"ab"}, "ab", []int{2}},
		{[]string{"ab"}, "bb", []int{2}},
		{[]string{"ab"}, "ba", nil},
		{[]string{"ab"}, "bab", []int{3}},
		{[]string{"ab"}, "bbb", []int{2, 3}},
		{[]string{"ab"}, "xxb", nil},
		{[]string{"ab"}, "xxbb", []int{4}},
		{[]string{"abc"}, "ccc", []int{3}},
		{[]string{"abc"}, "xxabc", []int{5}},
		{[]string{"abc"}, "xxxccc", []int{6}},
		{[]string{"abc"}, "cxxccx", nil},
		{[]string{"abc"}, "xxbcxxacxc", []int{4, 8}},
		{[]string{"abc"}, "xxbcxxcac", []int{4}},
		{[]string{"abc"}, "xxbcbbc", []int{4, 7}},
		{[]string{"he", "she", "hers"}, "ushers", []int{2, 4, 6}},
		{[]string{"\xff\x00"}, "\x00\x00\xff\x00\xff", []int{2, 4}},
	} {
		checkEnds(t, tableOf(t, x.l...), x.s, x.want)
		checkEnds(t, tableOf(t, x.l...), x.s, wantEnds(x.l, x.s))
	}
}

// 13.1, 13.2, 13.3: all sets of few short patterns, with all short texts.
func TestShortSets(t *testing.T) {
	for _, x := range []struct {
		some, bytes string
		patterns    []string
		most        int
	}{
		{patterns: texts("ab", 2)[1:], bytes: "abx", most: 6},
		{patterns: texts("\x00\xff", 2)[1:], bytes: "\x00\x7f\xff", most: 5},
		{patterns: []string{"aa", "ab", "aab", "abb", "bba", "abab", "baaa", "abbbb"}, bytes: "abx", most: 6},
		{patterns: []string{"abc", "bca", "cab", "aabb", "ccaab", "bbbbbb"}, bytes: "abc", most: 8},
	} {
		streams := texts(x.bytes, x.most)
		subsets(x.patterns, func(l []string) {
			table := checkTable(t, l)
			for _, s := range streams {
				checkEnds(t, table, s, wantEnds(l, s))
				checkCleared(t, table, l, s)
			}
		})
	}
}

// 13.1: each byte, as a pattern by itself, at each distance of one, beyond the shortest one, and as the only one that stands nowhere.
func TestAllBytes(t *testing.T) {
	for c := range 256 {
		s := string([]byte{byte(c)})
		other := string([]byte{byte(c + 1)})
		checkTable(t, []string{s})
		checkTable(t, []string{s + other})
		checkTable(t, []string{other + s, s + other + other})
		x := checkTable(t, []string{s + other, other})
		checkByte(t, x, byte(c), 1, true)
		checkEnds(t, x, s+other+s, []int{2})
		rest := strings.ReplaceAll(all(), s, "")
		x = checkTable(t, []string{rest})
		checkByte(t, x, byte(c), 255, true)
	}
	x := checkTable(t, []string{all()})
	for c := range 256 {
		checkByte(t, x, byte(c), 255-c, false)
	}
	checkEnds(t, x, all()+all()[1:], []int{256, 511})
}

// 13.1, 13.2: of a nil table, and of that of a nil set, all shifts are 0; there are no ends.
func TestNil(t *testing.T) {
	checkNone(t, nil)
	checkNone(t, shift.New(nil))
	checkNone(t, &shift.Table{})
}

// 13.1, 13.2: the longest patterns, with bytes at the last distance that counts and at the first one that does not.
func TestLong(t *testing.T) {
	long := strings.Repeat("a", api.MaxPattern)
	x := checkTable(t, []string{long})
	checkByte(t, x, 'b', api.MaxPattern, true)
	checkEnds(t, x, long[1:], nil)
	checkEnds(t, x, long, []int{api.MaxPattern})
	checkEnds(t, x, long+"ab", []int{api.MaxPattern, api.MaxPattern + 1})
	// The byte of the first end clears as many as come up to the last one.
	checkEnds(t, x, long[1:]+"b"+long, []int{2 * api.MaxPattern})
	checkEnds(t, x, long[1:]+"b"+long[1:], nil)

	first := "b" + long[1:]
	x = checkTable(t, []string{first})
	checkByte(t, x, 'b', api.MaxPattern-1, false)
	checkEnds(t, x, long[1:]+first, []int{2*api.MaxPattern - 1})
	x = checkTable(t, []string{first, long[1:]})
	checkByte(t, x, 'b', api.MaxPattern-1, true)
	checkByte(t, checkTable(t, []string{first, "a"}), 'b', 1, true)
}

// 13.1: the most patterns, and the most bytes that all may have; the shortest may be any of them.
func TestMost(t *testing.T) {
	var l []string
	for i := range api.MaxPatterns {
		l = append(l, "xy"+strconv.Itoa(i+100_000))
	}
	x := checkTable(t, l)
	checkByte(t, x, 'y', 6, false)
	checkByte(t, x, 'x', 7, false)
	checkByte(t, x, 'z', 8, true)
	for _, i := range []int{0, 1, len(l) / 2, len(l) - 1} {
		ahead := l[i]
		l[i] = "zyx"
		x = checkTable(t, l)
		checkLeast(t, x, 3)
		checkByte(t, x, 'x', 0, false)
		checkByte(t, x, 'z', 2, false)
		l[i] = ahead
	}

	var long []string
	for i := range 256 {
		long = append(long, string([]byte{byte(i)})+strings.Repeat("a", api.MaxPattern-1))
	}
	x = checkTable(t, long)
	for c := range 256 {
		if c != 'a' {
			checkByte(t, x, byte(c), api.MaxPattern-1, false)
		}
	}
}

// 13.2: a long text is gone through, with ends close together and far from one another.
func TestLongText(t *testing.T) {
	l := []string{"abc", "bca", "aabb"}
	x := tableOf(t, l...)
	var b strings.Builder
	for i := range 3000 {
		b.WriteString(strings.Repeat("x", i%7))
		b.WriteString(texts("abc", 4)[i%121])
	}
	s := b.String()
	checkEnds(t, x, s, wantEnds(l, s))
	checkCleared(t, x, l, s)
	for _, e := range []int{len(s) / 3, len(s) / 2, len(s) - 1} {
		checkEnds(t, x, s[e:], wantEnds(l, s[e:]))
	}
}

// R4: lists that are answered share nothing with one another, nor with the table.
func TestMemory(t *testing.T) {
	x := tableOf(t, "ab", "b")
	a, b := x.Ends("babb"), x.Ends("babb")
	clear(a[:cap(a)])
	want := []int{1, 3, 4}
	if !slices.Equal(b, want) {
		t.Errorf("a list that was answered is now %v; want %v", b, want)
	}
	checkEnds(t, x, "babb", want)
	checkByte(t, x, 'a', 1, true)
}

// R5: the same again, in whatever order the patterns come; tables know nothing of each other, and their set stays as it is.
func TestAgain(t *testing.T) {
	set, _ := pats.New([]string{"bc", "abc"})
	x := shift.New(set)
	for range 3 {
		other := tableOf(t, "xbb", "acb", "cab")
		checkByte(t, other, 'b', 0, false)
		checkByte(t, other, 'x', 2, false)
		for _, same := range []*shift.Table{x, shift.New(set), tableOf(t, "abc", "bc")} {
			checkByte(t, same, 'b', 1, false)
			checkByte(t, same, 'x', 2, true)
			checkEnds(t, same, "xabcbcx", []int{4, 6})
		}
		if l := set.List(); !slices.Equal(l, []string{"abc", "bc"}) {
			t.Errorf("the set is now %q", l)
		}
	}
}
