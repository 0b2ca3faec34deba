package pair_test

import (
	"math"
	"slices"
	"strconv"
	"strings"
	"testing"

	"jurat/api"
	"jurat/pair"
	"jurat/pats"
)

// texts is all texts of at most so many bytes out of some, the shortest first.
func texts(some string, most int) []string {
	l := []string{""}
	for i := 0; i < len(l); i++ {
		if len(l[i]) == most {
			continue
		}
		for k := range len(some) {
			l = append(l, l[i]+some[k:k+1])
		}
	}
	return l
}

// subsets calls f with each list of some texts that has one at least, each at most once.
func subsets(some []string, f func([]string)) {
	for bits := 1; bits < 1<<len(some); bits++ {
		var l []string
		for i, s := range some {
			if bits>>i&1 == 1 {
				l = append(l, s)
			}
		}
		f(l)
	}
}

// all is all bytes, from the least one on.
func all() string {
	var b []byte
	for c := range 256 {
		b = append(b, byte(c))
	}
	return string(b)
}

// twos is all texts of two bytes, in order.
func twos() []string {
	var l []string
	for a := range 256 {
		for b := range 256 {
			l = append(l, string([]byte{byte(a), byte(b)}))
		}
	}
	return l
}

// tableOf is the table of the set of texts that are one.
func tableOf(t *testing.T, l ...string) *pair.Table {
	t.Helper()
	x, e := pats.New(l)
	if x == nil || e != api.OK {
		t.Fatalf("pats.New of %d texts %.40q: %v; want a set", len(l), l[:min(len(l), 9)], e)
	}
	return pair.New(x)
}

// wantLeast is how long the shortest of the patterns is.
func wantLeast(l []string) int {
	least := len(l[0])
	for _, s := range l {
		least = min(least, len(s))
	}
	return least
}

// wantNear is a pair's shift: how far it stands ahead of a pattern's last two bytes, of all patterns, if that is less than the shortest one has pairs.
func wantNear(l []string, p string) int {
	near := wantLeast(l) - 1
	for _, s := range l {
		if i := strings.LastIndex(s, p); i >= 0 {
			near = min(near, len(s)-2-i)
		}
	}
	return near
}

// wantFirst is a byte's shift (chapter 13).
func wantFirst(l []string, c byte) int {
	first := wantLeast(l)
	for _, s := range l {
		if i := strings.LastIndexByte(s, c); i >= 0 {
			first = min(first, len(s)-1-i)
		}
	}
	return first
}

// wantLen is how many pairs the last bytes of the patterns have, as many bytes of each as the shortest one has.
func wantLen(l []string) int {
	least := wantLeast(l)
	var met []string
	for _, s := range l {
		for s = s[len(s)-least:]; len(s) > 1; s = s[1:] {
			met = append(met, s[:2])
		}
	}
	slices.Sort(met)
	return len(slices.Compact(met))
}

// endsThere is whether one of the patterns ends at an end of s.
func endsThere(l []string, s string, e int) bool {
	return slices.ContainsFunc(l, func(p string) bool {
		return strings.HasSuffix(s[:e], p)
	})
}

// checkNear asks for the shift of two bytes, and for the same as the end of longer texts.
func checkNear(t *testing.T, x *pair.Table, p string, want int) {
	t.Helper()
	if n := x.Near(p[0], p[1]); n != want {
		t.Errorf("Near(%q, %q): %d; want %d", p[0], p[1], n, want)
	}
	checkClear(t, x, p, 2, want)
	checkClear(t, x, p[1:]+p+p[:1], 3, want)
}

// checkCounts asks for the greatest shift, and for how many pairs have a lesser one.
func checkCounts(t *testing.T, x *pair.Table, far, length int) {
	t.Helper()
	if n := x.Far(); n != far {
		t.Errorf("Far: %d; want %d", n, far)
	}
	if n := x.Len(); n != length {
		t.Errorf("Len: %d; want %d", n, length)
	}
}

func checkClear(t *testing.T, x *pair.Table, s string, e, want int) {
	t.Helper()
	if n := x.Clear(s, e); n != want {
		t.Errorf("Clear(%d bytes %.40q, %d): %d; want %d", len(s), s, e, n, want)
	}
}

// checkTable asks for the shifts of some pairs, of the set that has these patterns.
func checkTable(t *testing.T, l, pairs []string) *pair.Table {
	t.Helper()
	x := tableOf(t, l...)
	checkCounts(t, x, wantLeast(l)-1, wantLen(l))
	for _, p := range pairs {
		checkNear(t, x, p, wantNear(l, p))
	}
	if t.Failed() {
		t.Fatalf("of the %d patterns %.40q", len(l), l[:min(len(l), 9)])
	}
	return x
}

// checkNone asks a table all of whose shifts are 0.
func checkNone(t *testing.T, x *pair.Table) {
	t.Helper()
	checkCounts(t, x, 0, 0)
	for _, p := range twos() {
		checkNear(t, x, p, 0)
	}
	for e := range 300 {
		checkClear(t, x, all(), e, 0)
	}
	checkNoEnd(t, x, all())
}

// noEnds is numbers that are no ends of a text of so many bytes that has two bytes up to them.
func noEnds(length int) []int {
	return []int{math.MinInt, math.MinInt + 1, -length, -2, -1, 0, 1, length + 1, length + 2, 2*length + 3, math.MaxInt - 1, math.MaxInt}
}

// checkNoEnd asks what is cleared where no two bytes stand ahead.
func checkNoEnd(t *testing.T, x *pair.Table, s string) {
	t.Helper()
	for _, e := range noEnds(len(s)) {
		checkClear(t, x, s, e, 0)
	}
}

// checkCleared asks what Clear tells at all ends of s, and what follows from it (14.3).
func checkCleared(t *testing.T, x *pair.Table, l []string, s string) {
	t.Helper()
	for e := 2; e <= len(s); e++ {
		n := wantNear(l, s[e-2:e])
		checkClear(t, x, s, e, n)
		for k := e; k < e+n && k <= len(s); k++ {
			if endsThere(l, s, k) {
				t.Errorf("of %q, in %q: the bytes of the end %d have the shift %d, but a pattern ends at %d", l, s, e, n, k)
			}
		}
	}
	checkNoEnd(t, x, s)
}

// 14.1, 14.2: the chapter's example.
func TestExample(t *testing.T) {
	x := tableOf(t, "abc", "bca")
	checkNear(t, x, "bc", 0)
	checkNear(t, x, "ca", 0)
	checkNear(t, x, "ab", 1)
	checkNear(t, x, "xc", 2)
	checkCounts(t, x, 2, 3)
}

// 14.1, 14.2: shifts, by examples: of several distances the least one counts, of one pattern and of all, and none at which the shortest one has no two bytes; which byte comes first matters.
func TestNear(t *testing.T) {
	type told struct {
		p    string
		near int
	}
	for _, x := range []struct {
		l           []string
		far, length int
		all         []told
	}{
		{[]string{"a"}, 0, 0, []told{{"aa", 0}, {"ab", 0}, {"xx", 0}}},
		{[]string{"a", "bcd"}, 0, 0, []told{{"cd", 0}, {"bc", 0}, {"xx", 0}}},
		{[]string{"ab"}, 1, 1, []told{{"ab", 0}, {"ba", 1}, {"aa", 1}, {"bb", 1}, {"xb", 1}, {"ax", 1}}},
		{[]string{"aa"}, 1, 1, []told{{"aa", 0}, {"ab", 1}, {"ba", 1}, {"a\x00", 1}, {"\x00a", 1}}},
		{[]string{"abc"}, 2, 2, []told{{"ab", 1}, {"bc", 0}, {"ac", 2}, {"cb", 2}, {"ba", 2}, {"xc", 2}}},
		{[]string{"abab"}, 3, 2, []told{{"ab", 0}, {"ba", 1}, {"bb", 3}, {"aa", 3}}},
		{[]string{"baaa"}, 3, 2, []told{{"aa", 0}, {"ba", 2}, {"ab", 3}}},
		{[]string{"xab", "ab"}, 1, 1, []told{{"ab", 0}, {"xa", 1}}},
		{[]string{"xyzab", "bbb"}, 2, 3, []told{{"ab", 0}, {"za", 1}, {"bb", 0}, {"yz", 2}, {"xy", 2}}},
		{[]string{"abxx", "yyab", "zabz"}, 3, 7, []told{{"ab", 0}, {"bx", 1}, {"xx", 0}, {"yy", 2}, {"ya", 1}, {"za", 2}, {"bz", 0}, {"zz", 3}}},
		{[]string{"zabz", "abxx"}, 3, 5, []told{{"ab", 1}, {"za", 2}}},
		{[]string{"abxx", "zabz"}, 3, 5, []told{{"ab", 1}, {"bx", 1}}},
		{[]string{"he", "she", "his", "hers"}, 1, 3, []told{{"he", 0}, {"is", 0}, {"rs", 0}, {"sh", 1}, {"hi", 1}, {"er", 1}, {"eh", 1}}},
		{[]string{"\x00\xff\x80", "\x80\x00\x7f"}, 2, 4, []told{{"\x00\xff", 1}, {"\xff\x80", 0}, {"\x80\x00", 1}, {"\x00\x7f", 0}, {"\x00\x80", 2}, {"\x00\x00", 2}}},
		{[]string{"\u00e4\u00a4"}, 3, 3, []told{{"\u00e4", 2}, {"\xa4\xc2", 1}, {"\u00a4", 0}, {"\xe4\xa4", 3}}},
	} {
		table := tableOf(t, x.l...)
		checkCounts(t, table, x.far, x.length)
		for _, w := range x.all {
			checkNear(t, table, w.p, w.near)
		}
		checkTable(t, x.l, nil)
	}
}

// 14.2: what is cleared, by examples: at the first and the last end that has two bytes ahead, between them, and where there is none.
func TestClear(t *testing.T) {
	x := tableOf(t, "abc", "bca")
	for e, want := range []int{0, 0, 1, 0, 0, 2, 2, 0} {
		checkClear(t, x, "abcaxc", e, want)
	}
	for _, s := range []string{"", "c", "bc", "xc", "abcaxc", all()} {
		checkNoEnd(t, x, s)
	}
	// What lies behind an end, or behind a text's length, is not asked for.
	s := "xxbc"
	checkClear(t, x, s[:3], 3, 2)
	checkClear(t, x, s[:3], 4, 0)
	checkClear(t, x, s[3:], 1, 0)
	checkClear(t, x, s[2:], 2, 0)
}

// 14.1, 14.2, 14.3: all sets of few short patterns, with all short texts.
func TestShortSets(t *testing.T) {
	for _, x := range []struct {
		bytes    string
		patterns []string
		most     int
	}{
		{"abx", texts("ab", 2)[1:], 5},
		{"\x00\x7f\xff", texts("\x00\xff", 2)[1:], 5},
		{"abx", texts("ab", 3)[3:11], 6},
		{"abx", []string{"aa", "ab", "aab", "abb", "bba", "abab", "baaa", "abbbb"}, 6},
		{"abc", []string{"abc", "bca", "cab", "aabb", "ccaab", "bbbbbb"}, 7},
	} {
		streams := texts(x.bytes, x.most)
		subsets(x.patterns, func(l []string) {
			table := checkTable(t, l, texts(x.bytes, 2)[len(x.bytes)+1:])
			for _, s := range streams {
				checkCleared(t, table, l, s)
			}
		})
	}
}

// 14.3: a pair's shift is no less than its second byte's, or m - 1.
func TestSecondByte(t *testing.T) {
	subsets([]string{"aa", "ab", "aab", "abb", "bba", "abab", "baaa", "abbbb", "cbacba"}, func(l []string) {
		x := tableOf(t, l...)
		for _, p := range texts("abcx", 2)[5:] {
			if n, least := x.Near(p[0], p[1]), min(wantFirst(l, p[1]), x.Far()); n < least {
				t.Errorf("of %q: Near(%q, %q): %d; want %d at least", l, p[0], p[1], n, least)
			}
		}
	})
}

// 14.1: each pair of bytes, alone, at each distance of a short pattern, beyond the shortest one, and the other way round.
func TestEachPair(t *testing.T) {
	for _, p := range twos() {
		round := p[1:] + p[:1]
		pairs := []string{p, round}
		checkTable(t, []string{p}, pairs)
		checkTable(t, []string{p + "ab"}, pairs)
		checkTable(t, []string{"a" + p + "b"}, pairs)
		checkTable(t, []string{p + p[1:], p + p}, pairs)
		checkTable(t, []string{p + "ab", "abc"}, pairs)
	}
	x := checkTable(t, []string{all()}, twos())
	for c := range 255 {
		checkNear(t, x, string([]byte{byte(c), byte(c + 1)}), 254-c)
	}
}

// 14.1, 14.2: as many pairs as there may be patterns, and all that there are.
func TestAllPairs(t *testing.T) {
	l := twos()
	for _, i := range []int{0, 'a', 'a' << 8, 257 * 'a', len(l) - 1} {
		most := slices.Concat(l[:i], l[i+1:])
		x := tableOf(t, most...)
		checkCounts(t, x, 1, 65535)
		checkNear(t, x, l[i], 1)
		for _, p := range most {
			checkNear(t, x, p, 0)
		}
	}
	// The row of a byte has all bytes, each behind that one.
	var rows []string
	for a := range 256 {
		var row []byte
		for b := range 256 {
			row = append(row, byte(a), byte(b))
		}
		rows = append(rows, string(row))
	}
	x := tableOf(t, rows...)
	checkCounts(t, x, 511, 65536)
	for _, p := range l {
		n := 2 * (255 - int(p[1]))
		if p[0] < 255 {
			// The row of the second byte has the pair, too, as that byte stands behind each one but the last.
			n = min(n, 2*(255-int(p[0]))-1)
		}
		checkNear(t, x, p, n)
	}
}

// 14.1, 14.2: of a nil table, of that of a nil set, and of that of a set with a pattern of one byte, all shifts are 0.
func TestNone(t *testing.T) {
	checkNone(t, nil)
	checkNone(t, pair.New(nil))
	checkNone(t, &pair.Table{})
	checkNone(t, tableOf(t, "a"))
	checkNone(t, tableOf(t, "ab", "abc", "b"))
	checkNone(t, tableOf(t, strings.Repeat("ab", api.MaxPattern/2), "x"))
}

// 14.1, 14.2: the longest patterns, with pairs at the last distance that counts and at the first one that does not.
func TestLong(t *testing.T) {
	long := strings.Repeat("a", api.MaxPattern)
	x := checkTable(t, []string{long}, []string{"aa", "ab", "ba"})
	checkCounts(t, x, api.MaxPattern-1, 1)
	checkNear(t, x, "aa", 0)
	checkNear(t, x, "ba", api.MaxPattern-1)

	first := "b" + long[1:]
	x = checkTable(t, []string{first}, []string{"aa", "ab", "ba"})
	checkCounts(t, x, api.MaxPattern-1, 2)
	checkNear(t, x, "ba", api.MaxPattern-2)
	checkClear(t, x, long+first, api.MaxPattern+2, api.MaxPattern-2)
	checkClear(t, x, long+first, api.MaxPattern+1, api.MaxPattern-1)
	checkClear(t, x, long+first, 2*api.MaxPattern, 0)
	checkClear(t, x, long+first, 2*api.MaxPattern+1, 0)

	x = checkTable(t, []string{first, long[1:]}, []string{"aa", "ab", "ba"})
	checkCounts(t, x, api.MaxPattern-2, 1)
	checkNear(t, x, "ba", api.MaxPattern-2)
	x = checkTable(t, []string{first, "c" + long[2:]}, []string{"aa", "ab", "ba", "ca"})
	checkCounts(t, x, api.MaxPattern-2, 2)
	checkNear(t, x, "ca", api.MaxPattern-3)
	checkNear(t, x, "ba", api.MaxPattern-2)
	checkNear(t, tableOf(t, first, "aa"), "ba", 1)
}

// 14.1: the most patterns, and the most bytes that all may have; the shortest may be any of them.
func TestMost(t *testing.T) {
	var l []string
	for i := range api.MaxPatterns {
		l = append(l, "xyz"+strconv.Itoa(i+100_000))
	}
	x := tableOf(t, l...)
	checkNear(t, x, "yz", 6)
	checkNear(t, x, "xy", 7)
	checkNear(t, x, "zy", 8)
	checkNear(t, x, "34", 0)
	for _, i := range []int{0, 1, len(l) / 2, len(l) - 1} {
		ahead := l[i]
		l[i] = "wyz"
		x = tableOf(t, l...)
		checkNear(t, x, "yz", 0)
		checkNear(t, x, "wy", 1)
		checkNear(t, x, "xy", 2)
		l[i] = ahead
	}

	var long []string
	for i := range 256 {
		long = append(long, string([]byte{byte(i)})+strings.Repeat("a", api.MaxPattern-1))
	}
	x = tableOf(t, long...)
	checkCounts(t, x, api.MaxPattern-1, 256)
	for c := range 256 {
		if c != 'a' {
			checkNear(t, x, string([]byte{byte(c), 'a'}), api.MaxPattern-2)
			checkNear(t, x, string([]byte{'a', byte(c)}), api.MaxPattern-1)
		}
	}
	checkNear(t, x, "aa", 0)
}

// R5: the same again, in whatever order the patterns come; tables know nothing of each other, what is asked for changes none, and their set stays as it is.
func TestAgain(t *testing.T) {
	set, _ := pats.New([]string{"bca", "abc"})
	x := pair.New(set)
	for range 3 {
		other := tableOf(t, "xbbb", "bcab", "cabx")
		checkCounts(t, other, 3, 6)
		checkNear(t, other, "ab", 0)
		checkNear(t, other, "bc", 2)
		for _, same := range []*pair.Table{x, pair.New(set), tableOf(t, "abc", "bca")} {
			checkNear(t, same, "ab", 1)
			checkNear(t, same, "xx", 2)
			checkNear(t, same, "bc", 0)
			checkClear(t, same, "abc", 2, 1)
			checkCounts(t, same, 2, 3)
		}
		if l := set.List(); !slices.Equal(l, []string{"abc", "bca"}) {
			t.Errorf("the set is now %q", l)
		}
	}
}
