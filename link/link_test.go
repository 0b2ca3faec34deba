package link_test

import (
	"math"
	"slices"
	"strings"
	"testing"

	"jurat/api"
	"jurat/link"
	"jurat/pats"
	"jurat/trie"
)

// texts is all texts of at most so many bytes out of some, the shortest first.
func texts(some string, most int) []string {
	l := []string{""}
	for i := 0; i < len(l); i++ {
		if len(l[i]) == most {
			continue
		}
		for k := range len(some) {
			l = append(l, l[i]+some[k:k+1])
		}
	}
	return l
}

// subsets calls f with each list of some texts that has one at least, each at most once.
func subsets(some []string, f func([]string)) {
	for bits := 1; bits < 1<<len(some); bits++ {
		var l []string
		for i, s := range some {
			if bits>>i&1 == 1 {
				l = append(l, s)
			}
		}
		f(l)
	}
}

// mixed is a text of some bytes, in which they stand mixed.
func mixed(some string, size int) string {
	b, n := []byte{}, uint32(size)
	for range size {
		n = n*1664525 + 1013904223
		b = append(b, some[int(n>>16)%len(some)])
	}
	return string(b)
}

// all is all bytes, from the least one on.
func all() string {
	var b []byte
	for c := range 256 {
		b = append(b, byte(c))
	}
	return string(b)
}

// setOf is the set of texts that are one.
func setOf(t *testing.T, l ...string) *pats.Set {
	t.Helper()
	x, e := pats.New(l)
	if x == nil || e != api.OK {
		t.Fatalf("pats.New of %d texts %.40q: %v; want a set", len(l), l[:min(len(l), 9)], e)
	}
	return x
}

// linkOf is the links of the set of texts that are one.
func linkOf(t *testing.T, l ...string) *link.Link {
	t.Helper()
	return link.New(setOf(t, l...))
}

// stateOf is the state that a text is, which must be one.
func stateOf(t *testing.T, k *link.Link, p string) int {
	t.Helper()
	s, ok := k.Trie().Find(p)
	if !ok {
		t.Fatalf("%.40q is no state", p)
	}
	return s
}

// longest is the longest one of some texts that is shorter than a number, and with which s ends; nothing, false, if there is none.
func longest(some map[string]int, s string, below int) (string, bool) {
	for n := min(len(s), below-1); n >= 0; n-- {
		end := s[len(s)-n:]
		if _, ok := some[end]; ok {
			return end, true
		}
	}
	return "", false
}

// wantHits is the numbers of the patterns with which s ends, rising, as the chapter words it; patterns are in order.
func wantHits(patterns []string, s string) []int {
	var l []int
	for id, p := range patterns {
		if strings.HasSuffix(s, p) {
			l = append(l, id)
		}
	}
	return l
}

func checkFail(t *testing.T, k *link.Link, s, want int) {
	t.Helper()
	if n := k.Fail(s); n != want {
		t.Errorf("Fail(%d): %d; want %d", s, n, want)
	}
}

func checkOut(t *testing.T, k *link.Link, s, want int, ok bool) {
	t.Helper()
	if n, is := k.Out(s); n != want || is != ok {
		t.Errorf("Out(%d): %d, %v; want %d, %v", s, n, is, want, ok)
	}
}

func checkStep(t *testing.T, k *link.Link, s int, c byte, want int) {
	t.Helper()
	if n := k.Step(s, c); n != want {
		t.Errorf("Step(%d, %q): %d; want %d", s, c, n, want)
	}
}

func checkHits(t *testing.T, k *link.Link, s int, want ...int) {
	t.Helper()
	if l := k.Hits(s); !slices.Equal(l, want) {
		t.Errorf("Hits(%d): %d numbers %v; want %d numbers %v", s, len(l), l[:min(len(l), 9)], len(want), want[:min(len(want), 9)])
	}
}

// checkTrie asks whether the trie of links is that of their set.
func checkTrie(t *testing.T, k *link.Link, x *trie.Trie) {
	t.Helper()
	y := k.Trie()
	if y.Len() != x.Len() {
		t.Fatalf("the trie has %d states; want %d", y.Len(), x.Len())
	}
	for s := range x.Len() {
		id, ok := x.Ends(s)
		if n, is := y.Ends(s); y.Path(s) != x.Path(s) || n != id || is != ok {
			t.Errorf("the trie's state %d is %.40q, and the pattern %d, %v; want %.40q, and %d, %v", s, y.Path(s), n, is, x.Path(s), id, ok)
		}
	}
}

// checkNoState asks for nothing at numbers that are no state's: beyond both ends, at an int's edges, and such as are a state's once they are cut to fewer bits.
func checkNoState(t *testing.T, k *link.Link) {
	t.Helper()
	n := k.Trie().Len()
	for _, s := range []int{
		math.MinInt, math.MinInt + 1, -n - 1, -n, -2, -1, n, n + 1, 2*n + 3, math.MaxInt - 1, math.MaxInt,
		1 << 31, 1 << 32, 1<<32 + 1, 1<<32 + n - 1, 1<<62 + 1, -1 << 31, -1 << 32, 1 - 1<<32, n - 1 - 1<<32,
	} {
		if s >= 0 && s < n {
			continue
		}
		checkFail(t, k, s, 0)
		checkOut(t, k, s, 0, false)
		checkHits(t, k, s)
		for c := range 256 {
			checkStep(t, k, s, byte(c), 0)
		}
	}
}

// words is a set's states and patterns, by which all is told that the chapter words.
type words struct {
	states, ids map[string]int
	patterns    []string
}

// wordsOf is those of patterns.
func wordsOf(x *trie.Trie, l []string) words {
	w := words{map[string]int{}, map[string]int{}, slices.Sorted(slices.Values(l))}
	for s := range x.Len() {
		w.states[x.Path(s)] = s
	}
	for id, p := range w.patterns {
		w.ids[p] = id
	}
	return w
}

// checkState asks all that is told of a state against the chapter's words.
func (w words) checkState(t *testing.T, k *link.Link, s int, p string) {
	t.Helper()
	// Of the root there is none that is shorter: the empty text is told, the root itself.
	fail, _ := longest(w.states, p, len(p))
	checkFail(t, k, s, w.states[fail])
	out, ok := longest(w.ids, p, len(p))
	checkOut(t, k, s, w.states[out], ok)
	checkHits(t, k, s, wantHits(w.patterns, p)...)
	for c := range 256 {
		on := p + string([]byte{byte(c)})
		to, _ := longest(w.states, on, len(on)+1)
		checkStep(t, k, s, byte(c), w.states[to])
	}
}

// checkWalk goes through a text from the root, and asks at each end for what 17.3 tells.
func (w words) checkWalk(t *testing.T, k *link.Link, text string) {
	t.Helper()
	s := 0
	for e := range len(text) + 1 {
		if e > 0 {
			s = k.Step(s, text[e-1])
		}
		if p, _ := longest(w.states, text[:e], e+1); s != w.states[p] {
			t.Fatalf("%.40q leads to %d; want %d, %.40q", text[:e], s, w.states[p], p)
		}
		checkHits(t, k, s, wantHits(w.patterns, text[:e])...)
	}
}

// checkLink asks of the links of patterns all that 17.1 and 17.2 tell of them, and for some texts what follows by 17.3.
func checkLink(t *testing.T, l, some []string) *link.Link {
	t.Helper()
	set := setOf(t, l...)
	k, x := link.New(set), trie.New(set)
	checkTrie(t, k, x)
	w := wordsOf(x, l)
	for p, s := range w.states {
		w.checkState(t, k, s, p)
	}
	checkNoState(t, k)
	for _, p := range slices.Concat(some, l) {
		w.checkWalk(t, k, p)
	}
	w.checkWalk(t, k, strings.Join(l, ""))
	w.checkWalk(t, k, strings.Join(l, "\x00"))
	if t.Failed() {
		t.Fatalf("of the %d patterns %.40q", len(l), l[:min(len(l), 9)])
	}
	return k
}

// 17.1, 17.2: the chapter's example.
func TestExample(t *testing.T) {
	k := linkOf(t, "he", "hers", "she")
	he, hers, she := stateOf(t, k, "he"), stateOf(t, k, "hers"), stateOf(t, k, "she")
	her, s, sh, h := stateOf(t, k, "her"), stateOf(t, k, "s"), stateOf(t, k, "sh"), stateOf(t, k, "h")
	checkFail(t, k, she, he)
	checkHits(t, k, she, 0, 2)
	checkStep(t, k, she, 'r', her)
	checkOut(t, k, she, he, true)
	checkFail(t, k, sh, h)
	checkOut(t, k, sh, 0, false)
	checkFail(t, k, hers, s)
	checkOut(t, k, hers, 0, false)
	checkHits(t, k, hers, 1)
	checkStep(t, k, hers, 'h', sh)
	checkStep(t, k, her, 's', hers)
	checkFail(t, k, he, 0)
	checkOut(t, k, he, 0, false)
	checkHits(t, k, he, 0)
	checkHits(t, k, her)
	checkStep(t, k, he, 'h', h)
	checkStep(t, k, he, 'e', 0)
	checkStep(t, k, she, 'x', 0)
	checkFail(t, k, 0, 0)
	checkHits(t, k, 0)
	checkLink(t, []string{"he", "hers", "she"}, []string{"ushers", "heshershe", "xshhershershe"})
}

// 17.1: where states fall back to, and the patterns that they meet there, by examples.
func TestFalls(t *testing.T) {
	for _, x := range []struct {
		patterns []string
		// falls is each state but the root, that to which it falls back, and the pattern that it meets; nothing, if it meets none.
		falls [][3]string
	}{
		{[]string{"a"}, [][3]string{{"a", "", ""}}},
		{[]string{"aaa"}, [][3]string{{"a", "", ""}, {"aa", "a", ""}, {"aaa", "aa", ""}}},
		{[]string{"aa", "aaaa"}, [][3]string{{"a", "", ""}, {"aa", "a", ""}, {"aaa", "aa", "aa"}, {"aaaa", "aaa", "aa"}}},
		{[]string{"abab"}, [][3]string{{"a", "", ""}, {"ab", "", ""}, {"aba", "a", ""}, {"abab", "ab", ""}}},
		{[]string{"he", "hers", "his", "she"}, [][3]string{
			{"h", "", ""}, {"s", "", ""}, {"he", "", ""}, {"hi", "", ""}, {"sh", "h", ""},
			{"her", "", ""}, {"his", "s", ""}, {"she", "he", "he"}, {"hers", "s", ""},
		}},
		// A state meets a pattern that it falls back to by a state that is none.
		{[]string{"abcd", "bcx", "c"}, [][3]string{
			{"a", "", ""}, {"ab", "b", ""}, {"abc", "bc", "c"}, {"abcd", "", ""}, {"b", "", ""}, {"bc", "c", "c"}, {"bcx", "", ""}, {"c", "", ""},
		}},
		// One that is a pattern meets another one, not itself.
		{[]string{"b", "ab", "cab", "cabb"}, [][3]string{
			{"a", "", ""}, {"b", "", ""}, {"c", "", ""}, {"ab", "b", "b"}, {"ca", "a", ""}, {"cab", "ab", "ab"}, {"cabb", "b", "b"},
		}},
		// The first state that is fallen back to does not lead on; the next one does.
		{[]string{"aabaaab", "abb"}, [][3]string{
			{"aabaaa", "aa", ""}, {"aabaaab", "aab", ""}, {"aabaa", "aa", ""}, {"aaba", "a", ""}, {"aab", "ab", ""}, {"abb", "", ""},
		}},
		{[]string{"\x00\xff\x00", "\xff\x00\xff"}, [][3]string{
			{"\x00\xff", "\xff", ""}, {"\xff\x00", "\x00", ""}, {"\x00\xff\x00", "\xff\x00", ""}, {"\xff\x00\xff", "\x00\xff", ""},
		}},
	} {
		k := linkOf(t, x.patterns...)
		checkFail(t, k, 0, 0)
		checkOut(t, k, 0, 0, false)
		for _, f := range x.falls {
			s := stateOf(t, k, f[0])
			checkFail(t, k, s, stateOf(t, k, f[1]))
			checkOut(t, k, s, stateOf(t, k, f[2]), f[2] != "")
		}
		checkLink(t, x.patterns, nil)
	}
}

// 17.2: hits rise by their numbers, in whatever order their states are met; also of a state that is no pattern itself.
func TestHits(t *testing.T) {
	k := linkOf(t, "z", "maz", "az", "yimazo", "imaz")
	for _, x := range []struct {
		path string
		hits []int
	}{
		{"z", []int{4}},
		{"maz", []int{0, 2, 4}},
		{"imaz", []int{0, 1, 2, 4}},
		{"yimaz", []int{0, 1, 2, 4}},
		{"yimazo", []int{3}},
		{"ma", nil},
		{"", nil},
	} {
		checkHits(t, k, stateOf(t, k, x.path), x.hits...)
	}
	checkLink(t, []string{"z", "maz", "az", "yimazo", "imaz"}, []string{"yimazyimazo", "mimazz"})
}

// 17.1, 17.2, 17.3: all sets of few short patterns.
func TestShortSets(t *testing.T) {
	for _, x := range []struct {
		bytes    string
		patterns []string
		most     int
	}{
		{"abx", texts("ab", 2)[1:], 4},
		{"\x00\x7f\xff", texts("\x00\xff", 2)[1:], 4},
		{"abx", texts("ab", 3)[7:], 4},
		{"abc", []string{"a", "ab", "abc", "ac", "abca", "bca", "cab", "cc"}, 4},
		{"abz", []string{"a", "aabb", "aab", "abb", "bbab", "bba", "bbaaa", "z"}, 4},
		{"ab", []string{"aaaaa", "aabaab", "abaababa", "babaabab", "bb", "baa"}, 8},
	} {
		some := append(texts(x.bytes, x.most), mixed(x.bytes, 99), mixed(x.bytes[:2], 99))
		subsets(x.patterns, func(l []string) {
			checkLink(t, l, some)
		})
	}
}

// 17.1, 17.2: each byte, as a pattern by itself, as one that leads on, and as the only one that does not.
func TestEachByte(t *testing.T) {
	s := all()
	var singles, doubles []string
	for c := range 256 {
		p, next := s[c:c+1], string([]byte{byte(c + 1)})
		singles = append(singles, p)
		doubles = append(doubles, p+next)
		checkLink(t, []string{p}, []string{p + p + next + p})
		checkLink(t, []string{p + next, next, next + p + p}, []string{p + p + next + p + p + next})
	}
	k := checkLink(t, singles, []string{s})
	for state := range 257 {
		checkFail(t, k, state, 0)
		for c := range 256 {
			checkStep(t, k, state, byte(c), 1+c)
		}
	}
	checkLink(t, doubles, []string{s, s + s})
	for c := range 256 {
		k = linkOf(t, slices.Concat(doubles[:c], doubles[c+1:])...)
		one, next := stateOf(t, k, singles[(c+255)%256]), stateOf(t, k, singles[(c+1)%256])
		two := stateOf(t, k, doubles[(c+255)%256])
		// The byte's own state is gone, with the pattern that alone began with it.
		checkFail(t, k, two, 0)
		checkStep(t, k, one, byte(c), two)
		checkStep(t, k, two, byte(c+1), next)
		checkStep(t, k, two, byte(c), 0)
		checkStep(t, k, 0, byte(c), 0)
	}
	checkLink(t, []string{s, s[1:] + s[:1]}, []string{s + s})
}

// 17.1, 17.2: nil links have nothing; those of a nil set have the root alone.
func TestNil(t *testing.T) {
	for _, k := range []*link.Link{nil, {}} {
		if x := k.Trie(); x != nil {
			t.Errorf("Trie: %d states; want nil", x.Len())
		}
		checkNoState(t, k)
		checkFail(t, k, 0, 0)
		checkHits(t, k, 0)
	}
	k := link.New(nil)
	checkTrie(t, k, trie.New(nil))
	checkFail(t, k, 0, 0)
	checkOut(t, k, 0, 0, false)
	checkHits(t, k, 0)
	for c := range 256 {
		checkStep(t, k, 0, byte(c), 0)
	}
	checkNoState(t, k)
}

// 17.1, 17.2: the longest pattern, of like bytes, of two in turn, and one that begins again behind a byte at which all is fallen back.
func TestLong(t *testing.T) {
	const n = api.MaxPattern
	long := strings.Repeat("a", n)
	k := linkOf(t, long)
	for s := range n + 1 {
		checkFail(t, k, s, max(0, s-1))
		checkOut(t, k, s, 0, false)
		checkStep(t, k, s, 'a', min(s+1, n))
	}
	checkStep(t, k, n, 'b', 0)
	checkStep(t, k, n-1, 'b', 0)
	checkHits(t, k, n, 0)
	checkHits(t, k, n-1)
	checkNoState(t, k)

	long = strings.Repeat("ab", n/2) + "a"
	k = linkOf(t, long)
	for s := range n {
		checkFail(t, k, s, max(0, s-2))
		checkStep(t, k, s, long[s], s+1)
	}
	checkFail(t, k, n, n-2)
	checkStep(t, k, n, 'a', 1)
	checkStep(t, k, n, 'b', n-1)
	checkStep(t, k, n-1, 'b', 0)

	const half = n / 2
	like := strings.Repeat("a", half)
	long = like + "b" + like
	k = linkOf(t, long, "a")
	for s := 1; s <= half; s++ {
		checkFail(t, k, s, s-1)
		checkFail(t, k, half+1+s, s)
		checkOut(t, k, s, min(s-1, 1), s > 1)
		checkOut(t, k, half+1+s, 1, true)
	}
	checkFail(t, k, half+1, 0)
	checkStep(t, k, half, 'b', half+1)
	checkStep(t, k, half-1, 'b', 0)
	checkStep(t, k, n, 'b', half+1)
	checkStep(t, k, n, 'a', half)
	checkStep(t, k, n-1, 'b', 0)
	checkHits(t, k, n, 0, 1)
	checkHits(t, k, half+1)
	checkNoState(t, k)
}

// 17.1, 17.2: as many hits of one state as there can be.
func TestMostHits(t *testing.T) {
	n := 0
	for (n+1)*(n+2)/2 <= api.MaxTotal {
		n++
	}
	var l []string
	var hits []int
	for i := range n {
		l = append(l, strings.Repeat("a", i+1))
		hits = append(hits, i)
	}
	k := linkOf(t, l...)
	for s := range n + 1 {
		checkFail(t, k, s, max(0, s-1))
		checkOut(t, k, s, max(0, s-1), s > 1)
		checkStep(t, k, s, 'a', min(s+1, n))
		checkStep(t, k, s, 'b', 0)
	}
	for _, s := range []int{0, 1, 2, 255, 256, n - 1, n} {
		checkHits(t, k, s, hits[:s]...)
	}
	checkNoState(t, k)
}

// 17.1, 17.2: the most patterns, all of two bytes: the number of each state tells its bytes.
func TestMostPatterns(t *testing.T) {
	var l []string
	for i := range api.MaxPatterns {
		l = append(l, string([]byte{byte(i >> 8), byte(i)}))
	}
	k := linkOf(t, l...)
	for c := range 256 {
		checkFail(t, k, 1+c, 0)
		checkHits(t, k, 1+c)
		checkStep(t, k, 0, byte(c), 1+c)
	}
	for i := range l {
		s := 257 + i
		checkFail(t, k, s, 1+i&255)
		checkOut(t, k, s, 0, false)
		checkHits(t, k, s, i)
		checkStep(t, k, s, 0, 257+i&255<<8)
		checkStep(t, k, s, 254, 257+i&255<<8+254)
	}
	// The two bytes that are no pattern lead no further than one.
	checkStep(t, k, 256, 255, 256)
	checkStep(t, k, 257+255, 255, 256)
	checkStep(t, k, 257+254, 255, 257+254<<8+255)
	checkNoState(t, k)
}

// 17.1, 17.2: as many states as patterns can have bytes, and one.
func TestMostBytes(t *testing.T) {
	const n = api.MaxPattern
	var l []string
	for c := range 256 {
		l = append(l, string([]byte{byte(c)})+strings.Repeat("a", n-1))
	}
	k := linkOf(t, l...)
	// at is the state of so many bytes that begins with a byte.
	at := func(c byte, depth int) int {
		return (depth-1)*256 + 1 + int(c)
	}
	for depth := 1; depth < n; depth++ {
		for _, c := range []byte{0, 'a', byte(depth * 7), 255} {
			checkStep(t, k, at(c, depth), 'a', at(c, depth+1))
			checkFail(t, k, at(c, depth+1), at('a', depth))
			checkOut(t, k, at(c, depth+1), 0, false)
		}
	}
	for c := range 256 {
		whole := at(byte(c), n)
		checkFail(t, k, at(byte(c), 1), 0)
		checkHits(t, k, whole, c)
		checkStep(t, k, whole, 'a', at('a', n))
		checkStep(t, k, whole, 'b', at('b', 1))
		checkStep(t, k, whole, 0, at(0, 1))
	}
	checkNoState(t, k)
}

// R4, R5: the same again, in whatever order the patterns come; links know nothing of each other, what is asked for, or written into an answer, changes none, and their set stays as it is.
func TestAgain(t *testing.T) {
	set := setOf(t, "she", "hers", "he")
	k := link.New(set)
	for range 3 {
		other := linkOf(t, "ab", "b")
		checkFail(t, other, 3, 2)
		checkHits(t, other, 3, 0, 1)
		for _, same := range []*link.Link{k, link.New(set), linkOf(t, "he", "hers", "she")} {
			she := stateOf(t, same, "she")
			checkTrie(t, same, trie.New(set))
			checkFail(t, same, she, stateOf(t, same, "he"))
			checkOut(t, same, she, stateOf(t, same, "he"), true)
			checkStep(t, same, she, 'r', stateOf(t, same, "her"))
			checkHits(t, same, she, 0, 2)
			one, two := same.Hits(she), same.Hits(she)
			one[0], one[1] = 7, 7
			if !slices.Equal(two, []int{0, 2}) {
				t.Errorf("Hits was %v; is %v now", []int{0, 2}, two)
			}
			checkHits(t, same, she, 0, 2)
		}
		if l := set.List(); !slices.Equal(l, []string{"he", "hers", "she"}) {
			t.Errorf("the set is now %q", l)
		}
	}
}
