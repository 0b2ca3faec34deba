package occ_test

import (
	"math"
	"slices"
	"strconv"
	"strings"
	"testing"

	"jurat/api"
	"jurat/occ"
	"jurat/pats"
)

// texts is all texts of at most so many bytes out of some, the shortest first.
func texts(some string, most int) []string {
	l := []string{""}
	for i := 0; i < len(l); i++ {
		if len(l[i]) == most {
			continue
		}
		for k := range len(some) {
			l = append(l, l[i]+some[k:k+1])
		}
	}
	return l
}

// subsets calls f with each list of some texts that has one at least, each at most once.
func subsets(some []string, f func([]string)) {
	for bits := 1; bits < 1<<len(some); bits++ {
		var l []string
		for i, s := range some {
			if bits>>i&1 == 1 {
				l = append(l, s)
			}
		}
		f(l)
	}
}

// all is all bytes, from the least one on.
func all() string {
	var b []byte
	for c := range 256 {
		b = append(b, byte(c))
	}
	return string(b)
}

// setOf is the set of texts that are one.
func setOf(t *testing.T, l ...string) *pats.Set {
	t.Helper()
	x, e := pats.New(l)
	if x == nil || e != api.OK {
		t.Fatalf("pats.New of %d texts %.40q: %v; want a set", len(l), l[:min(len(l), 9)], e)
	}
	return x
}

// hits is a list of hits, of their Ends and Ids in turn.
func hits(l ...int) []api.Hit {
	var all []api.Hit
	for ; len(l) > 0; l = l[2:] {
		all = append(all, api.Hit{End: l[0], Id: l[1]})
	}
	return all
}

// wantAt is the places, in order, of the patterns that are the last bytes up to an end.
func wantAt(l []string, s string, e int) []int {
	var ids []int
	for id, p := range slices.Sorted(slices.Values(l)) {
		if strings.HasSuffix(s[:e], p) {
			ids = append(ids, id)
		}
	}
	return ids
}

// wantAll is all hits, end by end.
func wantAll(l []string, s string) []api.Hit {
	var all []api.Hit
	for e := range len(s) + 1 {
		for _, id := range wantAt(l, s, e) {
			all = append(all, api.Hit{End: e, Id: id})
		}
	}
	return all
}

// wantCounts is how often each of so many numbers is a hit's.
func wantCounts(n int, l []api.Hit) []int {
	counts := make([]int, n)
	for _, h := range l {
		counts[h.Id]++
	}
	return counts
}

// wantOrder is which of two hits comes first, as the chapter words it: by End, of one End by Id.
func wantOrder(a, b api.Hit) int {
	switch {
	case a.End < b.End:
		return -1
	case a.End > b.End:
		return 1
	case a.Id < b.Id:
		return -1
	case a.Id > b.Id:
		return 1
	}
	return 0
}

// wantRising is whether each hit comes ahead of the one behind it.
func wantRising(l []api.Hit) bool {
	for len(l) > 1 {
		if wantOrder(l[0], l[1]) != -1 {
			return false
		}
		l = l[1:]
	}
	return true
}

func checkOrder(t *testing.T, a, b api.Hit, want int) {
	t.Helper()
	if n := occ.Order(a, b); n != want {
		t.Errorf("Order(%v, %v): %d; want %d", a, b, n, want)
	}
}

func checkRising(t *testing.T, l []api.Hit, want bool) {
	t.Helper()
	if ok := occ.Rising(l); ok != want {
		t.Errorf("Rising(%v): %v; want %v", l, ok, want)
	}
}

func checkAt(t *testing.T, x *pats.Set, s string, e int, want ...int) {
	t.Helper()
	if l := occ.At(x, s, e); !slices.Equal(l, want) {
		t.Errorf("At(%.40q, %d): %.40v; want %.40v", s, e, l, want)
	}
}

func checkAll(t *testing.T, x *pats.Set, s string, want []api.Hit) {
	t.Helper()
	if l := occ.All(x, s); !slices.Equal(l, want) {
		t.Errorf("All(%d bytes %.40q): %d hits %v; want %d hits %v", len(s), s, len(l), l[:min(len(l), 20)], len(want), want[:min(len(want), 20)])
	}
}

func checkCounts(t *testing.T, x *pats.Set, s string, want ...int) {
	t.Helper()
	if l := occ.Counts(x, s); !slices.Equal(l, want) {
		t.Errorf("Counts(%d bytes %.40q): %v; want %v", len(s), s, l[:min(len(l), 20)], want[:min(len(want), 20)])
	}
}

func checkAny(t *testing.T, x *pats.Set, s string, want bool) {
	t.Helper()
	if ok := occ.Any(x, s); ok != want {
		t.Errorf("Any(%d bytes %.40q): %v; want %v", len(s), s, ok, want)
	}
}

// noEnds is numbers that are no ends of a text of so many bytes.
func noEnds(length int) []int {
	return []int{math.MinInt, math.MinInt + 1, -length, -2, -1, length + 1, length + 2, 2*length + 3, math.MaxInt - 1, math.MaxInt}
}

// checkNoEnd asks what ends where a text has no end, and at the end 0, which is no pattern's.
func checkNoEnd(t *testing.T, x *pats.Set, s string) {
	t.Helper()
	for _, e := range append(noEnds(len(s)), 0) {
		checkAt(t, x, s, e)
	}
}

// checkText asks of a text all that 15.2 tells of it, and of the hits that are told what 15.1 does.
func checkText(t *testing.T, x *pats.Set, l []string, s string) {
	t.Helper()
	want := wantAll(l, s)
	checkAll(t, x, s, want)
	checkCounts(t, x, s, wantCounts(len(l), want)...)
	checkAny(t, x, s, len(want) > 0)
	checkRising(t, want, true)
	for e := range len(s) + 1 {
		checkAt(t, x, s, e, wantAt(l, s, e)...)
	}
	checkNoEnd(t, x, s)
	if t.Failed() {
		t.Fatalf("of the %d patterns %.40q", len(l), l[:min(len(l), 9)])
	}
}

// checkNone asks for what a set has no hits in.
func checkNone(t *testing.T, x *pats.Set, s string) {
	t.Helper()
	checkAll(t, x, s, nil)
	checkCounts(t, x, s, make([]int, x.Len())...)
	checkAny(t, x, s, false)
	for e := range min(len(s), 300) + 1 {
		checkAt(t, x, s, e)
	}
	checkAt(t, x, s, len(s))
	checkNoEnd(t, x, s)
}

// 15.1, 15.2: the chapter's example.
func TestExample(t *testing.T) {
	x := setOf(t, "a", "aba")
	checkAll(t, x, "ababa", hits(1, 0, 3, 0, 3, 1, 5, 0, 5, 1))
	checkCounts(t, x, "ababa", 3, 2)
	checkAny(t, x, "ababa", true)
	for e, want := range [][]int{nil, {0}, nil, {0, 1}, nil, {0, 1}} {
		checkAt(t, x, "ababa", e, want...)
	}
	checkNoEnd(t, x, "ababa")
	checkRising(t, hits(1, 0, 3, 0, 3, 1, 5, 0, 5, 1), true)
}

// 15.1: which of two hits comes first, by examples: the End counts ahead of the Id, whatever numbers they are.
func TestOrder(t *testing.T) {
	for _, x := range []struct {
		a, b api.Hit
		n    int
	}{
		{api.Hit{}, api.Hit{}, 0},
		{api.Hit{End: 3, Id: 1}, api.Hit{End: 3, Id: 1}, 0},
		{api.Hit{End: 3, Id: 1}, api.Hit{End: 3, Id: 2}, -1},
		{api.Hit{End: 3, Id: 9}, api.Hit{End: 4, Id: 1}, -1},
		{api.Hit{End: 3, Id: 1}, api.Hit{End: 4, Id: 1}, -1},
		{api.Hit{End: 3, Id: 1}, api.Hit{End: 4, Id: 9}, -1},
		{api.Hit{End: 1, Id: 3}, api.Hit{End: 3, Id: 1}, -1},
		{api.Hit{End: -1}, api.Hit{}, -1},
		{api.Hit{Id: -1}, api.Hit{}, -1},
		{api.Hit{End: math.MinInt}, api.Hit{End: math.MaxInt}, -1},
		{api.Hit{Id: math.MinInt}, api.Hit{Id: math.MaxInt}, -1},
		{api.Hit{End: math.MinInt, Id: math.MaxInt}, api.Hit{End: math.MaxInt, Id: math.MinInt}, -1},
		{api.Hit{End: api.MaxStream, Id: 0}, api.Hit{End: api.MaxStream, Id: api.MaxPatterns - 1}, -1},
		{api.Hit{End: 1 << 32}, api.Hit{End: 1<<32 + 1}, -1},
		{api.Hit{End: 1, Id: 0}, api.Hit{End: 1 << 32, Id: 0}, -1},
	} {
		checkOrder(t, x.a, x.b, x.n)
		checkOrder(t, x.b, x.a, -x.n)
		checkRising(t, []api.Hit{x.a, x.b}, x.n < 0)
		checkRising(t, []api.Hit{x.b, x.a}, false)
	}
}

// grid is the hits whose Ends and Ids are each of some numbers.
func grid(some ...int) []api.Hit {
	var l []api.Hit
	for _, end := range some {
		for _, id := range some {
			l = append(l, api.Hit{End: end, Id: id})
		}
	}
	return l
}

// 15.1: all pairs of hits of edges and of small numbers.
func TestOrderPairs(t *testing.T) {
	l := grid(math.MinInt, math.MinInt+1, -2, -1, 0, 1, 2, 3, 1<<31, 1<<32, api.MaxStream, math.MaxInt-1, math.MaxInt)
	for i, a := range l {
		for k, b := range l {
			// The grid is made in order, so that places tell it too.
			want := max(-1, min(1, i-k))
			if w := wantOrder(a, b); w != want {
				t.Fatalf("the order of %v, %v is %d by the words, %d by places", a, b, w, want)
			}
			checkOrder(t, a, b, want)
		}
	}
}

// 15.1: whether hits rise, by examples: one place is enough, wherever it is, and two that are the same don't.
func TestRising(t *testing.T) {
	checkRising(t, nil, true)
	checkRising(t, []api.Hit{}, true)
	checkRising(t, hits(0, 0), true)
	checkRising(t, hits(-5, -7), true)
	checkRising(t, hits(1, 0, 1, 0), false)
	checkRising(t, hits(1, 0, 1, 1, 2, 0, 9, 9), true)
	checkRising(t, hits(1, 0, 1, 1, 2, 0, 2, 0), false)
	checkRising(t, hits(1, 0, 1, 0, 2, 0, 3, 0), false)
	checkRising(t, hits(1, 1, 1, 0, 2, 0, 3, 0), false)
	checkRising(t, hits(1, 0, 2, 0, 3, 0, 2, 9), false)
	checkRising(t, hits(1, 0, 3, 0, 2, 0, 4, 0), false)
	checkRising(t, hits(5, 9, 6, 0, 7, 3), true)
	checkRising(t, hits(5, 0, 4, 1, 3, 2), false)
	var l []api.Hit
	for i := range 1000 {
		l = append(l, api.Hit{End: i / 3, Id: i % 3})
	}
	checkRising(t, l, true)
	for i := range 999 {
		l[i], l[i+1] = l[i+1], l[i]
		if occ.Rising(l) {
			t.Errorf("Rising: true, though the hits %d and %d are the wrong way round", i, i+1)
		}
		l[i], l[i+1] = l[i+1], l[i]
	}
}

// 15.1: all short lists of few hits.
func TestRisingLists(t *testing.T) {
	some := append(grid(0, 1, 2), api.Hit{End: -1, Id: 5}, api.Hit{End: 3, Id: -1})
	var grow func([]api.Hit)
	grow = func(l []api.Hit) {
		checkRising(t, l, wantRising(l))
		if len(l) == 4 {
			return
		}
		for _, h := range some {
			grow(append(slices.Clip(l), h))
		}
	}
	grow(nil)
}

// 15.2: hits by examples: patterns that end and begin within each other, at the text's edges, and none.
func TestHits(t *testing.T) {
	for _, x := range []struct {
		l []string
		s string
		h []api.Hit
	}{
		{[]string{"a"}, "", nil},
		{[]string{"a"}, "b", nil},
		{[]string{"a"}, "a", hits(1, 0)},
		{[]string{"ab"}, "a", nil},
		{[]string{"ab"}, "ba", nil},
		{[]string{"ab"}, "ab", hits(2, 0)},
		{[]string{"ab"}, "abab", hits(2, 0, 4, 0)},
		{[]string{"aa"}, "aaaa", hits(2, 0, 3, 0, 4, 0)},
		{[]string{"aba"}, "ababa", hits(3, 0, 5, 0)},
		{[]string{"b", "a"}, "ab", hits(1, 0, 2, 1)},
		{[]string{"b", "a"}, "ba", hits(1, 1, 2, 0)},
		{[]string{"ab", "b"}, "ab", hits(2, 0, 2, 1)},
		{[]string{"b", "ab"}, "bb", hits(1, 1, 2, 1)},
		{[]string{"abc", "bc", "c"}, "xabcx", hits(4, 0, 4, 1, 4, 2)},
		{[]string{"z", "yz", "xyz"}, "xyz", hits(3, 0, 3, 1, 3, 2)},
		{[]string{"he", "she", "his", "hers"}, "ushers", hits(4, 0, 4, 3, 6, 1)},
		{[]string{"a", "aa", "aaa"}, "aaa", hits(1, 0, 2, 0, 2, 1, 3, 0, 3, 1, 3, 2)},
		{[]string{"aab", "b"}, "aaab", hits(4, 0, 4, 1)},
		{[]string{"a", "abcd", "bc"}, "abcd", hits(1, 0, 3, 2, 4, 1)},
		{[]string{"\xff", "\x00"}, "\x00\xff\x00", hits(1, 0, 2, 1, 3, 0)},
		{[]string{"\xa4", "\u00e4"}, "\u00e4\u00a4", hits(2, 0, 2, 1, 4, 0)},
		{[]string{"a\nb", "\n"}, "a\nb", hits(2, 0, 3, 1)},
	} {
		set := setOf(t, x.l...)
		checkAll(t, set, x.s, x.h)
		checkText(t, set, x.l, x.s)
	}
}

// 15.2: counts stand by the patterns' numbers, whatever the order in which patterns came, 0 among them.
func TestCounts(t *testing.T) {
	x := setOf(t, "c", "a", "bb", "zz", "ab")
	checkCounts(t, x, "abbbcab", 2, 2, 2, 1, 0)
	checkCounts(t, x, "", 0, 0, 0, 0, 0)
	checkCounts(t, x, "zzz", 0, 0, 0, 0, 2)
	checkCounts(t, setOf(t, "a"), "aaaa", 4)
}

// 15.2: any pattern is enough, whichever it is, and wherever it stands.
func TestAny(t *testing.T) {
	l := []string{"ab", "cd", "efg", "h"}
	x := setOf(t, l...)
	checkAny(t, x, "", false)
	checkAny(t, x, "a", false)
	checkAny(t, x, "ba dc ef g fg", false)
	for _, p := range l {
		checkAny(t, x, p, true)
		checkAny(t, x, "zz"+p, true)
		checkAny(t, x, p+"zz", true)
		checkAny(t, x, "zz"+p+p+"zz", true)
	}
}

// 15.2: what lies behind an end, or behind a text's length, is not asked for.
func TestBehind(t *testing.T) {
	x := setOf(t, "ab", "abc", "b")
	s := "xabc"
	checkAt(t, x, s, 3, 0, 2)
	checkAt(t, x, s, 4, 1)
	checkAt(t, x, s[:3], 3, 0, 2)
	checkAt(t, x, s[:3], 4)
	checkAt(t, x, s[:2], 3)
	checkAt(t, x, s[2:], 1, 2)
	checkAll(t, x, s[:3], hits(3, 0, 3, 2))
	checkAll(t, x, s[2:], hits(1, 2))
	l := hits(1, 0, 2, 0, 1, 0)
	checkRising(t, l[:2], true)
	checkRising(t, l, false)
}

// 15.2: all sets of few short patterns, in all short texts.
func TestShortSets(t *testing.T) {
	for _, x := range []struct {
		bytes    string
		patterns []string
		most     int
	}{
		{"abx", texts("ab", 2)[1:], 5},
		{"\x00\x7f\xff", texts("\x00\xff", 2)[1:], 5},
		{"ab", texts("ab", 3)[3:11], 7},
		{"abx", []string{"a", "aa", "aab", "b", "ba", "abab", "baaa", "bbbbb"}, 5},
	} {
		streams := texts(x.bytes, x.most)
		subsets(x.patterns, func(l []string) {
			set := setOf(t, l...)
			for _, s := range streams {
				checkText(t, set, l, s)
			}
		})
	}
}

// 15.3: hits of a longer text, up to a shorter one that it begins with, are that one's.
func TestLonger(t *testing.T) {
	subsets([]string{"a", "b", "ab", "aab", "bb", "abab"}, func(l []string) {
		x := setOf(t, l...)
		for _, s := range texts("ab", 8) {
			long := occ.All(x, s)
			for n := range len(s) + 1 {
				upTo := slices.DeleteFunc(slices.Clone(long), func(h api.Hit) bool { return h.End > n })
				if of := occ.All(x, s[:n]); !slices.Equal(of, upTo) {
					t.Fatalf("of %q: the hits in %q are %v, in its first %d bytes %v", l, s, long, n, of)
				}
				if at := occ.At(x, s, n); !slices.Equal(at, occ.At(x, s[:n], n)) {
					t.Fatalf("of %q, in %q: At(%d) is not that of the first %d bytes", l, s, n, n)
				}
			}
		}
	})
}

// renamed is hits, each with the number that its pattern has in another set.
func renamed(t *testing.T, l []api.Hit, from, to *pats.Set) []api.Hit {
	t.Helper()
	var all []api.Hit
	for _, h := range l {
		p, _ := from.At(h.Id)
		id, ok := to.Find(p)
		if !ok {
			t.Fatalf("%q is no pattern of the greater set", p)
		}
		all = append(all, api.Hit{End: h.End, Id: id})
	}
	return all
}

// 15.3: more patterns make no fewer hits: those that were there stay, and only the new pattern's come.
func TestMorePatterns(t *testing.T) {
	streams := texts("ab", 7)
	subsets([]string{"a", "ab", "aab", "bb", "abab"}, func(l []string) {
		x := setOf(t, l...)
		for _, p := range []string{"b", "aa", "ba", "bab", "x"} {
			more := setOf(t, append(slices.Clip(l), p)...)
			id, _ := more.Find(p)
			for _, s := range streams {
				fewer := occ.All(x, s)
				with := slices.DeleteFunc(occ.All(more, s), func(h api.Hit) bool { return h.Id == id })
				if !slices.Equal(renamed(t, fewer, x, more), with) {
					t.Fatalf("in %q: the hits of %q are %v, with %q those of these are %v", s, l, fewer, p, with)
				}
				if occ.Any(x, s) && !occ.Any(more, s) {
					t.Fatalf("in %q: of %q there is a hit, with %q none", s, l, p)
				}
			}
		}
	})
}

// 15.2: each byte, as a pattern and as one that is none, alone, doubled, and among all others.
func TestEachByte(t *testing.T) {
	s := all()
	for c := range 256 {
		p, next := s[c:c+1], string([]byte{byte(c + 1)})
		x := setOf(t, p)
		checkAll(t, x, s+s, hits(c+1, 0, c+257, 0))
		checkCounts(t, x, s+s, 2)
		checkAt(t, x, s, c+1, 0)
		checkNone(t, x, s[:c]+s[c+1:])
		checkText(t, x, []string{p}, p+p+next+p)
		l := []string{p + next, next, next + p}
		checkText(t, setOf(t, l...), l, p+next+p+next+next)
	}
	var singles []string
	var want []api.Hit
	for c := range 256 {
		singles = append(singles, s[c:c+1])
		want = append(want, api.Hit{End: c + 1, Id: c})
	}
	checkAll(t, setOf(t, singles...), s, want)
}

// 15.2: a nil set has no hits, and no patterns to be counted.
func TestNil(t *testing.T) {
	for _, s := range []string{"", "a", "ab", all(), strings.Repeat("a", 1<<20)} {
		checkNone(t, nil, s)
	}
	if l := occ.Counts(nil, "a"); len(l) != 0 {
		t.Errorf("Counts of a nil set: %v; want none", l)
	}
}

// 15.2: in the empty text there are no hits, at no end.
func TestEmptyText(t *testing.T) {
	checkNone(t, setOf(t, "a"), "")
	checkNone(t, setOf(t, "a", "b", "ab", "\x00"), "")
	checkCounts(t, setOf(t, "a", "b"), "", 0, 0)
}

// 15.2: the longest patterns, in texts that are just as long, one byte shorter, one longer, and twice as long; alike up to one byte.
func TestLong(t *testing.T) {
	const n = api.MaxPattern
	long := strings.Repeat("a", n)
	x := setOf(t, long)
	checkNone(t, x, long[1:])
	checkAll(t, x, long, hits(n, 0))
	checkAll(t, x, long+"a", hits(n, 0, n+1, 0))
	checkAll(t, x, "b"+long+"b", hits(n+1, 0))
	checkNone(t, x, long[1:]+"b"+long[1:])
	checkCounts(t, x, long+long, n+1)
	checkAt(t, x, long+long, n-1)
	checkAt(t, x, long+long, n, 0)
	checkAt(t, x, long+long, 2*n, 0)
	checkAt(t, x, long+long, 2*n+1)
	checkAny(t, x, long+long, true)

	first, last := "b"+long[1:], long[1:]+"b"
	x = setOf(t, long, first, last)
	checkAll(t, x, first+"b", hits(n, 2, n+1, 1))
	checkAll(t, x, last+long[1:], hits(n, 1, 2*n-1, 2))
	checkAll(t, x, first+"ab", hits(n, 2, n+1, 0, n+2, 1))
	checkNone(t, x, long[1:])
	checkCounts(t, x, long+last, n, 1, 0)
	checkAt(t, x, long+last, 2*n-1, 0)
	checkAt(t, x, long+last, 2*n, 1)
}

// 15.2: a long text that is alike throughout, with patterns that stand nearly everywhere, or differ from it in their last byte alone.
func TestAlike(t *testing.T) {
	const n = 1 << 16
	s := strings.Repeat("a", n)
	l := []string{"a", "aa", s[:n/2], s[:n/2] + "b", "b" + s[:n/2]}
	x := setOf(t, l...)
	checkCounts(t, x, s, n, n-1, n/2+1, 0, 0)
	checkCounts(t, x, s+"b"+s, 2*n, 2*n-2, n+2, 1, 1)
	var want []api.Hit
	for e := 1; e <= n; e++ {
		want = append(want, api.Hit{End: e, Id: 0})
		if e >= 2 {
			want = append(want, api.Hit{End: e, Id: 1})
		}
		if e >= n/2 {
			want = append(want, api.Hit{End: e, Id: 2})
		}
	}
	checkAll(t, x, s, want)
}

// 15.2: the most patterns.
func TestMost(t *testing.T) {
	var l []string
	for i := range api.MaxPatterns {
		l = append(l, strconv.Itoa(i+100_000))
	}
	x := setOf(t, l...)
	s := "x" + l[0] + "x" + l[len(l)-1] + l[12_345] + l[0]
	checkAt(t, x, s, 7, 0)
	checkAt(t, x, s, 14, len(l)-1)
	checkAt(t, x, s, 20, 12_345)
	checkAt(t, x, s, 26, 0)
	checkAt(t, x, s, 8)
	checkText(t, x, l, s)
	counts := occ.Counts(x, s)
	if len(counts) != len(l) || counts[0] != 2 || counts[12_345] != 1 || counts[len(l)-1] != 1 {
		t.Errorf("Counts: %d numbers, %d %d %d; want %d, 2 1 1", len(counts), counts[0], counts[12_345], counts[len(l)-1], len(l))
	}
	checkNone(t, x, "x99999x")
	checkAny(t, x, "x"+l[len(l)-1], true)

	// All texts of two bytes but one; so the number of each tells its bytes.
	var twos []string
	for i := range api.MaxPatterns {
		twos = append(twos, string([]byte{byte(i >> 8), byte(i)}))
	}
	x = setOf(t, twos...)
	checkAll(t, x, "\x00\x00\xff\xff\xfe\x01", hits(2, 0, 3, 0x00ff, 5, 0xfffe, 6, 0xfe01))
}

// R4: lists that are answered share no memory, and what is handed in is not changed.
func TestMemory(t *testing.T) {
	x := setOf(t, "a", "aa", "b")
	for _, list := range []func() []int{
		func() []int { return occ.At(x, "aab", 2) },
		func() []int { return occ.Counts(x, "aab") },
	} {
		a, b := list(), list()
		want := slices.Clone(b)
		for i := range a[:cap(a)] {
			a[:cap(a)][i] = -1
		}
		if !slices.Equal(b, want) || !slices.Equal(list(), want) {
			t.Errorf("lists share memory: %v, %v; want %v", b, list(), want)
		}
	}
	a, b := occ.All(x, "aab"), occ.All(x, "aab")
	want := hits(1, 0, 2, 0, 2, 1, 3, 2)
	for i := range a[:cap(a)] {
		a[:cap(a)][i] = api.Hit{End: -1, Id: -1}
	}
	if !slices.Equal(b, want) {
		t.Errorf("hits share memory: %v; want %v", b, want)
	}
	checkAll(t, x, "aab", want)
	if l := x.List(); !slices.Equal(l, []string{"a", "aa", "b"}) {
		t.Errorf("the set is now %q", l)
	}
	l := hits(5, 1, 3, 2, 3, 1)
	occ.Rising(l)
	if !slices.Equal(l, hits(5, 1, 3, 2, 3, 1)) {
		t.Errorf("the hits are now %v", l)
	}
}

// R5: the same again, in whatever order the patterns come.
func TestAgain(t *testing.T) {
	for range 3 {
		for _, l := range [][]string{{"b", "aba", "a"}, {"a", "b", "aba"}, {"aba", "a", "b"}} {
			x := setOf(t, l...)
			checkAll(t, x, "ababa", hits(1, 0, 2, 2, 3, 0, 3, 1, 4, 2, 5, 0, 5, 1))
			checkCounts(t, x, "ababa", 3, 2, 2)
			checkAt(t, x, "ababa", 5, 0, 1)
			checkAny(t, x, "xx", false)
		}
		checkRising(t, hits(1, 0, 1, 1), true)
		checkOrder(t, api.Hit{End: 1}, api.Hit{End: 2}, -1)
	}
}
