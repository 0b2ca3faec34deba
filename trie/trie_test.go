package trie_test

import (
	"math"
	"slices"
	"strconv"
	"strings"
	"testing"

	"jurat/api"
	"jurat/pats"
	"jurat/trie"
)

// texts is all texts of at most so many bytes out of some, the shortest first.
func texts(some string, most int) []string {
	l := []string{""}
	for i := 0; i < len(l); i++ {
		if len(l[i]) == most {
			continue
		}
		for k := range len(some) {
			l = append(l, l[i]+some[k:k+1])
		}
	}
	return l
}

// subsets calls f with each list of some texts that has one at least, each at most once.
func subsets(some []string, f func([]string)) {
	for bits := 1; bits < 1<<len(some); bits++ {
		var l []string
		for i, s := range some {
			if bits>>i&1 == 1 {
				l = append(l, s)
			}
		}
		f(l)
	}
}

// all is all bytes, from the least one on.
func all() string {
	var b []byte
	for c := range 256 {
		b = append(b, byte(c))
	}
	return string(b)
}

// setOf is the set of texts that are one.
func setOf(t *testing.T, l ...string) *pats.Set {
	t.Helper()
	x, e := pats.New(l)
	if x == nil || e != api.OK {
		t.Fatalf("pats.New of %d texts %.40q: %v; want a set", len(l), l[:min(len(l), 9)], e)
	}
	return x
}

// trieOf is the trie of the set of texts that are one.
func trieOf(t *testing.T, l ...string) *trie.Trie {
	t.Helper()
	return trie.New(setOf(t, l...))
}

// wantStates is all texts with which one of a list begins, as the chapter words it: each once, the shortest first, those of one length in order.
func wantStates(l []string) []string {
	met := map[string]int{}
	for _, p := range l {
		for n := range len(p) + 1 {
			met[p[:n]]++
		}
	}
	var states []string
	for s := range met {
		states = append(states, s)
	}
	slices.SortFunc(states, func(a, b string) int {
		if len(a) != len(b) {
			return len(a) - len(b)
		}
		return strings.Compare(a, b)
	})
	return states
}

// wantPlace is the place of a text in a list, and true; 0, false, if it is not there.
func wantPlace(l []string, s string) (int, bool) {
	i := slices.Index(l, s)
	return max(i, 0), i >= 0
}

func checkLen(t *testing.T, x *trie.Trie, want int) {
	t.Helper()
	if n := x.Len(); n != want {
		t.Errorf("Len: %d; want %d", n, want)
	}
}

func checkNext(t *testing.T, x *trie.Trie, s int, c byte, want int, ok bool) {
	t.Helper()
	if n, is := x.Next(s, c); n != want || is != ok {
		t.Errorf("Next(%d, %q): %d, %v; want %d, %v", s, c, n, is, want, ok)
	}
}

// checkPath asks what bytes a state is, and how many.
func checkPath(t *testing.T, x *trie.Trie, s int, want string) {
	t.Helper()
	if p := x.Path(s); p != want {
		t.Errorf("Path(%d): %d bytes %.40q; want %d bytes %.40q", s, len(p), p, len(want), want)
	}
	if n := x.Depth(s); n != len(want) {
		t.Errorf("Depth(%d): %d; want %d", s, n, len(want))
	}
}

func checkAbove(t *testing.T, x *trie.Trie, s, want int, by byte, ok bool) {
	t.Helper()
	if n, c, is := x.Above(s); n != want || c != by || is != ok {
		t.Errorf("Above(%d): %d, %q, %v; want %d, %q, %v", s, n, c, is, want, by, ok)
	}
}

func checkEnds(t *testing.T, x *trie.Trie, s, want int, ok bool) {
	t.Helper()
	if id, is := x.Ends(s); id != want || is != ok {
		t.Errorf("Ends(%d): %d, %v; want %d, %v", s, id, is, want, ok)
	}
}

func checkBytes(t *testing.T, x *trie.Trie, s int, want string) {
	t.Helper()
	if l := x.Bytes(s); l != want {
		t.Errorf("Bytes(%d): %q; want %q", s, l, want)
	}
}

func checkFind(t *testing.T, x *trie.Trie, p string, want int, ok bool) {
	t.Helper()
	if s, is := x.Find(p); s != want || is != ok {
		t.Errorf("Find(%d bytes %.40q): %d, %v; want %d, %v", len(p), p, s, is, want, ok)
	}
}

// checkNoState asks for nothing at numbers that are no state's: beyond both ends, at an int's edges, and such as are a state's once they are cut to fewer bits.
func checkNoState(t *testing.T, x *trie.Trie) {
	t.Helper()
	n := x.Len()
	for _, s := range []int{
		math.MinInt, math.MinInt + 1, -n - 1, -n, -2, -1, n, n + 1, 2*n + 3, math.MaxInt - 1, math.MaxInt,
		1 << 31, 1 << 32, 1<<32 + 1, 1<<32 + n - 1, 1<<62 + 1, -1 << 31, -1 << 32, 1 - 1<<32, n - 1 - 1<<32,
	} {
		if s >= 0 && s < n {
			continue
		}
		checkPath(t, x, s, "")
		checkAbove(t, x, s, 0, 0, false)
		checkEnds(t, x, s, 0, false)
		checkBytes(t, x, s, "")
		for c := range 256 {
			checkNext(t, x, s, byte(c), 0, false)
		}
	}
}

// checkState asks all that is told of one of a trie's states, of which all are handed in, against the chapter's words; patterns are in order.
func checkState(t *testing.T, x *trie.Trie, states, patterns []string, s int) {
	t.Helper()
	p := states[s]
	checkPath(t, x, s, p)
	checkFind(t, x, p, s, true)
	if s == 0 {
		checkAbove(t, x, s, 0, 0, false)
	} else {
		above, _ := wantPlace(states, p[:len(p)-1])
		checkAbove(t, x, s, above, p[len(p)-1], true)
	}
	id, ok := wantPlace(patterns, p)
	checkEnds(t, x, s, id, ok)
	var on []byte
	for c := range 256 {
		next, ok := wantPlace(states, p+string([]byte{byte(c)}))
		checkNext(t, x, s, byte(c), next, ok)
		if ok {
			on = append(on, byte(c))
		}
	}
	checkBytes(t, x, s, string(on))
}

// checkTrie asks of the trie of patterns all that 16.1 and 16.2 tell of it, what follows by 16.3, and for some texts.
func checkTrie(t *testing.T, l, some []string) *trie.Trie {
	t.Helper()
	set := setOf(t, l...)
	x, states := trie.New(set), wantStates(l)
	checkLen(t, x, len(states))
	for s := range states {
		checkState(t, x, states, slices.Sorted(slices.Values(l)), s)
	}
	checkNoState(t, x)
	checkFollows(t, x, set)
	for _, p := range slices.Concat(some, states, l) {
		for _, q := range []string{p, p + "\x00", p + "a", p + "\xff", "\x00" + p, "a" + p, "\xff" + p, p + p} {
			s, ok := wantPlace(states, q)
			checkFind(t, x, q, s, ok)
		}
	}
	if t.Failed() {
		t.Fatalf("of the %d patterns %.40q", len(l), l[:min(len(l), 9)])
	}
	return x
}

// checkFollows asks for what 16.3 tells of a set's trie.
func checkFollows(t *testing.T, x *trie.Trie, set *pats.Set) {
	t.Helper()
	if n, most := x.Len(), set.Total()+1; n > most {
		t.Errorf("there are %d states; want %d at most", n, most)
	}
	for s := range x.Len() {
		above, c, ok := x.Above(s)
		if ok != (s > 0) || s > 0 && above >= s {
			t.Fatalf("Above(%d): %d, %q, %v; want a lesser one, but of the root", s, above, c, ok)
		}
		if next, ok := x.Next(above, c); s > 0 && (next != s || !ok) {
			t.Fatalf("Next(%d, %q): %d, %v; want %d, whose Above that is", above, c, next, ok, s)
		}
	}
}

// 16.1, 16.2: the chapter's example.
func TestExample(t *testing.T) {
	x := trieOf(t, "ab", "ac", "b")
	checkLen(t, x, 5)
	for s, want := range []struct {
		path  string
		above int
		by    byte
		id    int
		ends  bool
		bytes string
	}{
		{"", 0, 0, 0, false, "ab"},
		{"a", 0, 'a', 0, false, "bc"},
		{"b", 0, 'b', 2, true, ""},
		{"ab", 1, 'b', 0, true, ""},
		{"ac", 1, 'c', 1, true, ""},
	} {
		checkPath(t, x, s, want.path)
		checkAbove(t, x, s, want.above, want.by, s > 0)
		checkEnds(t, x, s, want.id, want.ends)
		checkBytes(t, x, s, want.bytes)
		checkFind(t, x, want.path, s, true)
	}
	checkNext(t, x, 0, 'a', 1, true)
	checkNext(t, x, 0, 'b', 2, true)
	checkNext(t, x, 0, 'c', 0, false)
	checkNext(t, x, 1, 'a', 0, false)
	checkNext(t, x, 1, 'b', 3, true)
	checkNext(t, x, 1, 'c', 4, true)
	checkNext(t, x, 1, 'd', 0, false)
	checkNext(t, x, 2, 'a', 0, false)
	checkNext(t, x, 4, 'c', 0, false)
	for _, p := range []string{"c", "aa", "ad", "ba", "abc", "acb", "bab", "\x00", "a\x00"} {
		checkFind(t, x, p, 0, false)
	}
	checkNoState(t, x)
}

// 16.1: the states, by examples: a shorter one has a lesser number, whatever bytes it is, and of those of one length the one that comes first in order, whatever is below it.
func TestStates(t *testing.T) {
	for _, x := range []struct{ patterns, states []string }{
		{[]string{"a"}, []string{"", "a"}},
		{[]string{"abc"}, []string{"", "a", "ab", "abc"}},
		{[]string{"aaa"}, []string{"", "a", "aa", "aaa"}},
		{[]string{"b", "a"}, []string{"", "a", "b"}},
		{[]string{"b", "aa"}, []string{"", "a", "b", "aa"}},
		{[]string{"ba", "ab"}, []string{"", "a", "b", "ab", "ba"}},
		{[]string{"a", "ab", "abc"}, []string{"", "a", "ab", "abc"}},
		{[]string{"abc", "a", "ad"}, []string{"", "a", "ab", "ad", "abc"}},
		{[]string{"abcd", "abx", "b"}, []string{"", "a", "b", "ab", "abc", "abx", "abcd"}},
		{[]string{"abx", "abcde", "aby"}, []string{"", "a", "ab", "abc", "abx", "aby", "abcd", "abcde"}},
		{[]string{"xab", "yab", "xac"}, []string{"", "x", "y", "xa", "ya", "xab", "xac", "yab"}},
		{[]string{"he", "she", "his", "hers"}, []string{"", "h", "s", "he", "hi", "sh", "her", "his", "she", "hers"}},
		{[]string{"aabb", "abab", "b", "bbaa"}, []string{"", "a", "b", "aa", "ab", "bb", "aab", "aba", "bba", "aabb", "abab", "bbaa"}},
		{[]string{"\xff\x00", "\x80", "\x00"}, []string{"", "\x00", "\x80", "\xff", "\xff\x00"}},
		{[]string{"\u00e4", "\u00a4"}, []string{"", "\xc2", "\xc3", "\u00a4", "\u00e4"}},
		{[]string{"a\nb", "a\n", "a b"}, []string{"", "a", "a\n", "a ", "a\nb", "a b"}},
	} {
		if l := wantStates(x.patterns); !slices.Equal(l, x.states) {
			t.Errorf("by the words the states of %q are %q; want %q", x.patterns, l, x.states)
		}
		for s, p := range x.states {
			checkPath(t, trieOf(t, x.patterns...), s, p)
		}
		checkTrie(t, x.patterns, nil)
	}
}

// 16.2: which patterns states are: also those that others begin with, by the numbers of the set, whatever the order in which they came.
func TestEnds(t *testing.T) {
	x := trieOf(t, "b", "abc", "a", "ab", "ca")
	for _, p := range []struct {
		path string
		id   int
	}{{"a", 0}, {"ab", 1}, {"abc", 2}, {"b", 3}, {"ca", 4}} {
		s, ok := x.Find(p.path)
		if !ok {
			t.Fatalf("%q is no state", p.path)
		}
		checkEnds(t, x, s, p.id, true)
	}
	s, _ := x.Find("c")
	checkEnds(t, x, s, 0, false)
	checkEnds(t, x, 0, 0, false)
	for _, l := range [][]string{{"a"}, {"ab"}, {"a", "b"}} {
		checkEnds(t, trieOf(t, l...), 0, 0, false)
	}
}

// 16.1, 16.2, 16.3: all sets of few short patterns.
func TestShortSets(t *testing.T) {
	for _, x := range []struct {
		bytes    string
		patterns []string
		most     int
	}{
		{"abx", texts("ab", 2)[1:], 3},
		{"\x00\x7f\xff", texts("\x00\xff", 2)[1:], 3},
		{"abx", texts("ab", 3)[7:], 4},
		{"abc", []string{"a", "ab", "abc", "ac", "abca", "bca", "cab", "cc"}, 4},
		{"abz", []string{"a", "aabb", "aab", "abb", "bbab", "bba", "bbaaa", "z"}, 5},
	} {
		some := texts(x.bytes, x.most)
		subsets(x.patterns, func(l []string) {
			checkTrie(t, l, some)
		})
	}
}

// 16.3: there is a state for each byte of the patterns, and one, just if no two begin alike.
func TestHowMany(t *testing.T) {
	subsets([]string{"a", "ab", "abb", "ba", "bbb", "cab", "dd", "dda"}, func(l []string) {
		set := setOf(t, l...)
		firsts := map[byte]int{}
		for _, p := range l {
			firsts[p[0]]++
		}
		n, most := trie.New(set).Len(), set.Total()+1
		if alone := len(firsts) == len(l); n > most || alone != (n == most) {
			t.Errorf("of %q: %d states, of %d at most", l, n, most)
		}
	})
}

// 16.1, 16.2: each byte, as a pattern by itself, as one that leads on, and as the only one that does not.
func TestEachByte(t *testing.T) {
	s := all()
	var singles, doubles []string
	for c := range 256 {
		p, next := s[c:c+1], string([]byte{byte(c + 1)})
		singles = append(singles, p)
		doubles = append(doubles, "a"+p)
		checkTrie(t, []string{p}, []string{next})
		checkTrie(t, []string{p + next, next, next + p + p}, nil)
	}
	x := checkTrie(t, singles, nil)
	checkBytes(t, x, 0, s)
	x = checkTrie(t, doubles, nil)
	checkBytes(t, x, 0, "a")
	checkBytes(t, x, 1, s)
	for c := range 256 {
		x = trieOf(t, slices.Concat(doubles[:c], doubles[c+1:])...)
		checkLen(t, x, 257)
		checkBytes(t, x, 1, s[:c]+s[c+1:])
		checkNext(t, x, 1, byte(c), 0, false)
		checkFind(t, x, doubles[c], 0, false)
	}
	checkTrie(t, []string{s, s[1:] + s[:1]}, nil)
}

// 16.1, 16.2: a nil trie has no states; that of a nil set has the root alone.
func TestNil(t *testing.T) {
	for _, x := range []*trie.Trie{nil, {}} {
		checkLen(t, x, 0)
		checkNoState(t, x)
		for _, p := range []string{"", "a", "\x00", all()} {
			checkFind(t, x, p, 0, false)
		}
	}
	x := trie.New(nil)
	checkLen(t, x, 1)
	checkPath(t, x, 0, "")
	checkAbove(t, x, 0, 0, 0, false)
	checkEnds(t, x, 0, 0, false)
	checkBytes(t, x, 0, "")
	for c := range 256 {
		checkNext(t, x, 0, byte(c), 0, false)
	}
	checkNoState(t, x)
	checkFind(t, x, "", 0, true)
	checkFind(t, x, "a", 0, false)
	checkFind(t, x, "\x00", 0, false)
}

// 16.1, 16.2: the longest patterns: one, two that differ in their last byte, and two that do in their first one.
func TestLong(t *testing.T) {
	const n = api.MaxPattern
	long := strings.Repeat("a", n)
	x := trieOf(t, long)
	checkLen(t, x, n+1)
	for s := range n + 1 {
		checkPath(t, x, s, long[:s])
		checkEnds(t, x, s, 0, s == n)
		checkNext(t, x, s, 'b', 0, false)
	}
	checkFind(t, x, long, n, true)
	checkFind(t, x, long[1:], n-1, true)
	checkFind(t, x, long+"a", 0, false)
	checkFind(t, x, long+long, 0, false)
	checkFind(t, x, long[1:]+"b", 0, false)
	checkNext(t, x, n-1, 'a', n, true)
	checkNext(t, x, n, 'a', 0, false)
	checkNoState(t, x)

	x = trieOf(t, long, long[1:]+"b", long[1:])
	checkLen(t, x, n+2)
	checkBytes(t, x, n-1, "ab")
	checkEnds(t, x, n-1, 0, true)
	checkEnds(t, x, n, 1, true)
	checkEnds(t, x, n+1, 2, true)
	checkAbove(t, x, n+1, n-1, 'b', true)
	checkPath(t, x, n+1, long[1:]+"b")
	checkBytes(t, x, n, "")
	checkBytes(t, x, n+1, "")

	// The states of both stand in turn.
	first := "b" + long[1:]
	x = trieOf(t, first, long)
	checkLen(t, x, 2*n+1)
	for depth := 1; depth <= n; depth++ {
		checkPath(t, x, 2*depth-1, long[:depth])
		checkPath(t, x, 2*depth, first[:depth])
		checkFind(t, x, first[:min(depth, 99)], 2*min(depth, 99), true)
	}
	checkEnds(t, x, 2*n-1, 0, true)
	checkEnds(t, x, 2*n, 1, true)
	checkAbove(t, x, 2*n, 2*n-2, 'a', true)
	checkAbove(t, x, 2, 0, 'b', true)
	checkNoState(t, x)
}

// 16.1, 16.2: the most patterns, all of two bytes: the number of each state tells its bytes.
func TestMostPatterns(t *testing.T) {
	var l []string
	for i := range api.MaxPatterns {
		l = append(l, string([]byte{byte(i >> 8), byte(i)}))
	}
	x := trieOf(t, l...)
	checkLen(t, x, 1+256+api.MaxPatterns)
	checkBytes(t, x, 0, all())
	for c := range 256 {
		checkPath(t, x, 1+c, string([]byte{byte(c)}))
		checkEnds(t, x, 1+c, 0, false)
		checkBytes(t, x, 1+c, all()[:256-c/255])
	}
	for i, p := range l {
		checkNext(t, x, 1+i>>8, byte(i), 257+i, true)
		checkAbove(t, x, 257+i, 1+i>>8, byte(i), true)
		checkEnds(t, x, 257+i, i, true)
		checkFind(t, x, p, 257+i, true)
		checkPath(t, x, 257+i, p)
	}
	checkNext(t, x, 256, 255, 0, false)
	checkFind(t, x, "\xff\xff", 0, false)
	checkNoState(t, x)

	for i := range l {
		l[i] = "number " + strconv.Itoa(i+100_000)
	}
	x = trieOf(t, l...)
	want := wantStates(l)
	checkLen(t, x, len(want))
	for s, p := range want {
		checkPath(t, x, s, p)
		checkFind(t, x, p, s, true)
	}
	checkFind(t, x, "number 165535", 0, false)
	checkBytes(t, x, 7, "1")
	checkBytes(t, x, 8, "0123456")
}

// 16.1, 16.2, 16.3: as many states as there can be bytes of patterns that do not begin alike, and one.
func TestMostBytes(t *testing.T) {
	const n = api.MaxPattern
	var l []string
	for c := range 256 {
		l = append(l, string([]byte{byte(c)})+strings.Repeat("a", n-1))
	}
	set := setOf(t, l...)
	x := trie.New(set)
	checkLen(t, x, set.Total()+1)
	for depth := 1; depth <= n; depth++ {
		c := depth * 7 % 256
		s := (depth-1)*256 + 1 + c
		checkPath(t, x, s, l[c][:depth])
		checkEnds(t, x, s, c*(depth/n), depth == n)
		if depth > 1 {
			checkAbove(t, x, s, s-256, 'a', true)
			checkNext(t, x, s-256, 'a', s, true)
			checkNext(t, x, s-256, 'b', 0, false)
		}
	}
	for c := range 256 {
		checkFind(t, x, l[c], (n-1)*256+1+c, true)
		checkFind(t, x, l[c]+"a", 0, false)
		checkEnds(t, x, (n-1)*256+1+c, c, true)
		checkBytes(t, x, (n-1)*256+1+c, "")
	}
	checkNoState(t, x)
}

// R5: the same again, in whatever order the patterns come; tries know nothing of each other, what is asked for changes none, and their set stays as it is.
func TestAgain(t *testing.T) {
	set := setOf(t, "b", "ac", "ab")
	x := trie.New(set)
	for range 3 {
		other := trieOf(t, "abc", "xa")
		checkPath(t, other, 2, "x")
		checkNext(t, other, 1, 'b', 3, true)
		checkEnds(t, other, 2, 0, false)
		for _, same := range []*trie.Trie{x, trie.New(set), trieOf(t, "ab", "b", "ac")} {
			for s, p := range []string{"", "a", "b", "ab", "ac"} {
				checkPath(t, same, s, p)
				checkFind(t, same, p, s, true)
			}
			checkLen(t, same, 5)
			checkNext(t, same, 1, 'b', 3, true)
			checkEnds(t, same, 2, 2, true)
			checkBytes(t, same, 0, "ab")
		}
		if l := set.List(); !slices.Equal(l, []string{"ab", "ac", "b"}) {
			t.Errorf("the set is now %q", l)
		}
	}
}
