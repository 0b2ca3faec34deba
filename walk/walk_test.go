package walk_test

import (
	"math"
	"runtime"
	"slices"
	"strings"
	"testing"
	"unsafe"
	"weak"

	"jurat/api"
	"jurat/chunk"
	"jurat/occ"
	"jurat/pats"
	"jurat/walk"
)

// kinds is all kinds of tables.
func kinds() []int {
	return []int{api.Dense, api.Sparse, api.Links}
}

// texts is all texts of at most so many bytes out of some, the shortest first.
func texts(some string, most int) []string {
	l := []string{""}
	for i := 0; i < len(l); i++ {
		if len(l[i]) == most {
			continue
		}
		for k := range len(some) {
			l = append(l, l[i]+some[k:k+1])
		}
	}
	return l
}

// subsets calls f with each list of some texts that has one at least, each at most once.
func subsets(some []string, f func([]string)) {
	for bits := 1; bits < 1<<len(some); bits++ {
		var l []string
		for i, s := range some {
			if bits>>i&1 == 1 {
				l = append(l, s)
			}
		}
		f(l)
	}
}

// mixed is a text of some bytes, in which they stand mixed.
func mixed(some string, size int) string {
	b, n := []byte{}, uint32(size)
	for range size {
		n = n*1664525 + 1013904223
		b = append(b, some[int(n>>16)%len(some)])
	}
	return string(b)
}

// all is all bytes, from the least one on.
func all() string {
	var b []byte
	for c := range 256 {
		b = append(b, byte(c))
	}
	return string(b)
}

// setOf is the set of texts that are one.
func setOf(t *testing.T, l ...string) *pats.Set {
	t.Helper()
	x, e := pats.New(l)
	if x == nil || e != api.OK {
		t.Fatalf("pats.New of %d texts %.40q: %v; want a set", len(l), l[:min(len(l), 9)], e)
	}
	return x
}

// walkOf is a walk of a set's automaton, by a kind of table that there is, to which no bytes came.
func walkOf(t *testing.T, x *pats.Set, kind int) *walk.Walk {
	t.Helper()
	w, e := walk.New(x, kind)
	if w == nil || e != api.OK {
		t.Fatalf("New(…, %d): %v, %v; want a walk", kind, w, e)
	}
	checkTold(t, w, told{})
	return w
}

// told is what a walk tells of the bytes that came: how many they are, how many hits there were, and how many of the last of them are open.
type told struct{ seen, hits, open int }

// hitsOf is the hits of patterns, which are in order, in a text, by the chapters' words.
func hitsOf(l []string, s string) []api.Hit {
	var hl []api.Hit
	for end := range len(s) + 1 {
		for id, p := range l {
			if strings.HasSuffix(s[:end], p) {
				hl = append(hl, api.Hit{End: end, Id: id})
			}
		}
	}
	return hl
}

// openOf is how long the longest text is with which a text ends, and one of the patterns begins.
func openOf(l []string, s string) int {
	n := 0
	for _, p := range l {
		for k := range min(len(p), len(s)) + 1 {
			if strings.HasSuffix(s, p[:k]) {
				n = max(n, k)
			}
		}
	}
	return n
}

// checkTold asks for what a walk tells of the bytes that came.
func checkTold(t *testing.T, w *walk.Walk, want told) {
	t.Helper()
	if got := (told{w.Seen(), w.Hits(), w.Open()}); got != want {
		t.Errorf("Seen, Hits, Open: %+v; want %+v", got, want)
	}
	for _, least := range []int{0, 1, 2, 3, want.open - 1, want.open, want.open + 1, want.open + 2, want.open + 9, api.MaxPattern, math.MaxInt - 1, math.MaxInt} {
		if least >= 0 {
			checkClear(t, w, least, max(0, least-1-want.open))
		}
	}
}

func checkClear(t *testing.T, w *walk.Walk, least, want int) {
	t.Helper()
	if n := w.Clear(least); n != want {
		t.Errorf("Clear(%d): %d; want %d (Open is %d)", least, n, want, w.Open())
	}
}

// checkFeed asks for the hits that some bytes bring.
func checkFeed(t *testing.T, w *walk.Walk, s string, want ...api.Hit) {
	t.Helper()
	if l := w.Feed(s); !slices.Equal(l, want) {
		t.Errorf("Feed(%.40q): %.200v; want %.200v", s, l, want)
	}
}

// checkParts asks for each part's hits, and for all else that is told behind each, of walks by all kinds of tables.
func checkParts(t *testing.T, l []string, parts []string) {
	t.Helper()
	x := setOf(t, l...)
	l = x.List()
	s := strings.Join(parts, "")
	hl := hitsOf(l, s)
	for _, kind := range kinds() {
		w, seen, hits := walkOf(t, x, kind), 0, 0
		for _, p := range parts {
			seen += len(p)
			from := hits
			for hits < len(hl) && hl[hits].End <= seen {
				hits++
			}
			checkFeed(t, w, p, hl[from:hits]...)
			checkTold(t, w, told{seen, hits, openOf(l, s[:seen])})
		}
		if t.Failed() {
			t.Fatalf("of the patterns %.40q, by the kind %d, in the parts %.40q", l, kind, parts)
		}
	}
}

// checkStream asks that of a stream that comes whole, byte by byte, in two parts, and in parts of few bytes, with empty ones between.
func checkStream(t *testing.T, l []string, s string) {
	t.Helper()
	checkParts(t, l, []string{s})
	checkParts(t, l, strings.Split(s, ""))
	for n := range len(s) + 1 {
		checkParts(t, l, []string{s[:n], s[n:]})
	}
	checkParts(t, l, chunk.Cut(s, 0, 2, 0, 0, 3, 1))
}

// checkClears asks that the next Clear bytes, whatever they are of some, bring no hit, of a stream that comes byte by byte.
func checkClears(t *testing.T, l []string, s, some string) {
	t.Helper()
	x := setOf(t, l...)
	for _, kind := range kinds() {
		for n := range len(s) + 1 {
			w := walkOf(t, x, kind)
			w.Feed(s[:n])
			clear := w.Clear(x.Least())
			for _, next := range texts(some, min(clear, 4)) {
				w := walkOf(t, x, kind)
				w.Feed(s[:n])
				if hl := w.Feed(next); len(hl) > 0 {
					t.Fatalf("of the patterns %q behind %q: Clear(%d): %d, but %q brings %v", l, s[:n], x.Least(), clear, next, hl)
				}
			}
		}
	}
}

// 23.1, 23.2: the chapter's example.
func TestExample(t *testing.T) {
	for _, kind := range kinds() {
		w := walkOf(t, setOf(t, "he", "she"), kind)
		checkFeed(t, w, "xsh")
		checkTold(t, w, told{3, 0, 2})
		checkFeed(t, w, "e", api.Hit{End: 4, Id: 0}, api.Hit{End: 4, Id: 1})
		checkTold(t, w, told{4, 2, 3})
		checkFeed(t, w, "")
		checkTold(t, w, told{4, 2, 3})
		checkFeed(t, w, "xhe", api.Hit{End: 7, Id: 0})
		checkTold(t, w, told{7, 3, 2})
		checkFeed(t, w, "xx")
		checkTold(t, w, told{9, 3, 0})
	}
}

// 23.1: numbers that are no kind's, with such as are one's in fewer bits; of a nil set too.
func TestNoKind(t *testing.T) {
	x := setOf(t, "ab", "b")
	for _, kind := range []int{
		math.MinInt, math.MinInt + 1, -3, -2, -1, 0, 4, 5, 255, 256, 257, math.MaxInt, math.MaxInt - 1,
		1<<8 + 2, 1<<16 + 1, 1<<32 + 1, 1<<32 + 2, 1<<32 + 3, 1<<62 + 1, 1 - 1<<32, 3 - 1<<8,
	} {
		for _, set := range []*pats.Set{x, nil} {
			if w, e := walk.New(set, kind); w != nil || e != api.ErrArg {
				t.Errorf("New(…, %d): %v, %v; want nil, %v", kind, w, e, api.ErrArg)
			}
		}
	}
}

// 23.1, 23.2: what is clear, of leasts to the edges of an int, whatever is open.
func TestClear(t *testing.T) {
	for _, kind := range kinds() {
		w := walkOf(t, setOf(t, "abcde", "bcx"), kind)
		for n, c := range []string{"a", "b", "c", "d", "e"} {
			for least := range 10 {
				checkClear(t, w, least, max(0, least-1-n))
			}
			checkClear(t, w, math.MaxInt, math.MaxInt-1-n)
			checkClear(t, w, math.MaxInt-1, math.MaxInt-2-n)
			checkClear(t, w, 1<<32, 1<<32-1-n)
			// Of a least below 0 nothing is told, but that the call ends.
			for _, least := range []int{-1, -2, -n - 1, -n, math.MinInt, math.MinInt + 1, math.MinInt + n} {
				w.Clear(least)
			}
			checkTold(t, w, told{n, 0, n})
			w.Feed(c)
			if c == "e" {
				checkTold(t, w, told{5, 1, 5})
			}
		}
	}
}

// 23.1, 23.2, 23.3: all sets of few short patterns, and all short streams of their bytes, in many parts.
func TestShortSets(t *testing.T) {
	for _, q := range []struct {
		some []string
		most int
	}{
		{texts("ab", 2)[1:], 5},
		{[]string{"aab", "abb", "baa", "bab"}, 6},
	} {
		streams := texts("ab", q.most)
		subsets(q.some, func(l []string) {
			for _, s := range streams {
				checkParts(t, l, []string{s})
				checkParts(t, l, strings.Split(s, ""))
				checkParts(t, l, []string{s[:len(s)/2], "", s[len(s)/2:], ""})
			}
		})
	}
}

// 23.1, 23.2, 23.3: more sets, and longer streams, with bytes that stand in no pattern.
func TestMoreSets(t *testing.T) {
	for _, some := range [][]string{
		{"a", "ab", "abc", "ac", "abca", "bca"},
		{"\x00", "\x00\x01\xff", "\x01\x00", "\xff\x00", "\xff\xff"},
		{"he", "hers", "his", "she", "s"},
		{"aaa", "aaaaa", "aabaa", "baaab", "aaab"},
	} {
		used := strings.Join(some, "")
		streams := []string{"", used, "?" + used, mixed(used, 17), mixed(used+"?", 23), some[1] + "?" + some[0]}
		subsets(some, func(l []string) {
			for _, s := range streams {
				checkStream(t, l, s)
			}
		})
	}
}

// 23.3: with how long the shortest pattern is, the next Clear bytes bring no hit.
func TestClears(t *testing.T) {
	subsets([]string{"aab", "abba", "babbb", "bb"}, func(l []string) {
		checkClears(t, l, mixed("ab", 15), "ab")
		checkClears(t, l, "aababbaabbbabbbc", "abc")
	})
	checkClears(t, []string{"aaaaaa", "aabaabc"}, "aabaabaaaaxaab", "abc")
	checkClears(t, []string{"\x00\xff\x00", "\xff\xff\xff\xff"}, mixed("\x00\xff", 15), "\x00\xff")
}

// 23.1, 23.2, 23.3: long streams, against the truth of layer 15, in parts of many lengths.
func TestLongStreams(t *testing.T) {
	own := mixed(all(), 200)
	x := setOf(t, "he", "hers", "his", "she", "s", "e", own, own[100:]+own[:99], own[7:55], own[55:], mixed("hers", 50), mixed("heis", 70))
	for _, s := range []string{own + own, strings.Join(x.List(), ""), strings.Join(x.List(), "he"), mixed("hers", 2000), mixed("heis", 2000), mixed(all(), 2000)} {
		want := occ.All(x, s)
		for _, kind := range kinds() {
			for _, lengths := range [][]int{{}, {1}, {len(s) - 1}, {100, 0, 155, 256, 1, 7, 777}} {
				w := walkOf(t, x, kind)
				var hl []api.Hit
				for _, p := range chunk.Cut(s, lengths...) {
					part := w.Feed(p)
					for _, h := range part {
						if h.End <= w.Seen()-len(p) || h.End > w.Seen() {
							t.Fatalf("Feed of the bytes from %d to %d told the end %d", w.Seen()-len(p), w.Seen(), h.End)
						}
					}
					hl = append(hl, part...)
				}
				if !slices.Equal(hl, want) {
					t.Fatalf("kind %d, parts %v of %.40q: %d hits; want %d", kind, lengths, s, len(hl), len(want))
				}
				checkTold(t, w, told{len(s), len(want), openOf(x.List(), s)})
			}
		}
	}
}

// 23.1, 23.2: each byte alone is a pattern, and behind another one.
func TestEachByte(t *testing.T) {
	s := all()
	for c := range 256 {
		p, next := s[c:c+1], string([]byte{byte(c + 1)})
		checkParts(t, []string{p, p + next}, []string{p, next + p, p + p, "", next, next})
		checkParts(t, []string{p}, []string{s, s})
		checkParts(t, []string{p + next}, []string{s, s})
	}
	checkParts(t, strings.Split(s, ""), []string{s[:128], s[128:], s})
}

// 23.1, 23.2: of a nil walk all is 0, or nothing; a nil set's has no hits, and nothing open.
func TestNil(t *testing.T) {
	var w *walk.Walk
	for _, s := range []string{"", "a", all()} {
		checkFeed(t, w, s)
		for _, n := range []int{w.Seen(), w.Hits(), w.Open()} {
			if n != 0 {
				t.Errorf("of a nil walk: %d; want 0", n)
			}
		}
		for _, least := range []int{0, 1, 2, 99, math.MaxInt, -1, math.MinInt} {
			checkClear(t, w, least, 0)
		}
	}
	for _, kind := range kinds() {
		w, seen := walkOf(t, nil, kind), 0
		for _, s := range []string{"", "a", all(), "", mixed(all(), 999)} {
			seen += len(s)
			checkFeed(t, w, s)
			checkTold(t, w, told{seen, 0, 0})
		}
	}
}

// 23.1, 23.2, 23.3: the longest pattern, with one that stands in it.
func TestLong(t *testing.T) {
	const n = api.MaxPattern
	p := strings.Repeat("a", n)
	x := setOf(t, p, "aaa")
	var want []api.Hit
	for end := 3; end < n; end++ {
		want = append(want, api.Hit{End: end, Id: 0})
	}
	for end := n; end <= n+3; end++ {
		want = append(want, api.Hit{End: end, Id: 0}, api.Hit{End: end, Id: 1})
	}
	for _, kind := range kinds() {
		w := walkOf(t, x, kind)
		checkFeed(t, w, p[:2])
		checkTold(t, w, told{2, 0, 2})
		checkFeed(t, w, p[3:], want[:n-3]...)
		checkTold(t, w, told{n - 1, n - 3, n - 1})
		checkClear(t, w, n, 0)
		checkClear(t, w, n+1, 1)
		checkFeed(t, w, "aaaa", want[n-3:]...)
		checkTold(t, w, told{n + 3, len(want), n})
		checkFeed(t, w, "b")
		checkTold(t, w, told{n + 4, len(want), 0})
		checkFeed(t, w, "aaaa", api.Hit{End: n + 7, Id: 0}, api.Hit{End: n + 8, Id: 0})
		checkTold(t, w, told{n + 8, len(want) + 2, 4})
	}
}

// 23.1, 23.2: the most patterns, all of two bytes.
func TestMostPatterns(t *testing.T) {
	var l []string
	for i := range api.MaxPatterns {
		l = append(l, string([]byte{byte(i >> 8), byte(i)}))
	}
	x := setOf(t, l...)
	for _, kind := range kinds() {
		w, end := walkOf(t, x, kind), 0
		s := mixed(all(), 4000)
		var hl, want []api.Hit
		for _, p := range chunk.Cut(s, 1, 1, 500, 0, 1000) {
			hl = append(hl, w.Feed(p)...)
		}
		for end = 2; end <= len(s); end++ {
			if id := int(s[end-2])<<8 + int(s[end-1]); id < api.MaxPatterns {
				want = append(want, api.Hit{End: end, Id: id})
			}
		}
		if !slices.Equal(hl, want) {
			t.Errorf("kind %d: %d hits; want %d", kind, len(hl), len(want))
		}
		checkTold(t, w, told{len(s), len(want), 2})
	}
}

// 23.1: as many hits of one end as there may be, of patterns that all end alike.
func TestManyAtOneEnd(t *testing.T) {
	const n = 3000
	p := strings.Repeat("a", n)
	var l []string
	var want []api.Hit
	for id := range n {
		l = append(l, p[:id+1])
		want = append(want, api.Hit{End: n, Id: id})
	}
	for _, kind := range kinds() {
		w := walkOf(t, setOf(t, l...), kind)
		if hl := w.Feed(p[1:]); len(hl) != n*(n-1)/2 || !occ.Rising(hl) {
			t.Errorf("kind %d: %d hits; want %d, in order", kind, len(hl), n*(n-1)/2)
		}
		checkFeed(t, w, "a", want...)
		checkTold(t, w, told{n, n * (n + 1) / 2, n})
	}
}

// R4: a walk keeps no piece of the bytes that came.
func TestKept(t *testing.T) {
	for _, kind := range kinds() {
		w := walkOf(t, setOf(t, "he", "she"), kind)
		// Bytes that are few may lie in one piece of memory with others.
		b := append(make([]byte, 0, 999), "xsh"...)
		whole := weak.Make(&b[0])
		w.Feed(unsafe.String(&b[0], len(b)))
		b = nil
		for range 3 {
			runtime.GC()
		}
		if whole.Value() != nil {
			t.Errorf("kind %d: the bytes that were handed in are kept", kind)
		}
		checkFeed(t, w, "e", api.Hit{End: 4, Id: 0}, api.Hit{End: 4, Id: 1})
	}
}

// R3, R4, R5: the same again, whatever was asked or refused; walks know nothing of each other, what is written into an answer changes none, and their set stays as it is.
func TestAgain(t *testing.T) {
	l := []string{"a", "aab", "aabb", "abb", "bba", "bbaaa", "bbab", "z"}
	x := setOf(t, l...)
	s := mixed("abz", 200)
	hl := hitsOf(l, s)
	for _, kind := range kinds() {
		for range 2 {
			w, again, other := walkOf(t, x, kind), walkOf(t, x, kind), walkOf(t, setOf(t, "ab", "zb"), kind)
			at := 0
			for n := range len(s) {
				from := at
				for at < len(hl) && hl[at].End <= n+1 {
					at++
				}
				if e, f := walk.New(x, 0); e != nil || f != api.ErrArg {
					t.Errorf("New(…, 0): %v, %v", e, f)
				}
				one := w.Feed(s[n : n+1])
				for i := range one {
					one[i] = api.Hit{End: 7, Id: 7}
				}
				for i := range one[:cap(one)] {
					one[:cap(one)][i].Id = 9
				}
				other.Feed(s[n : n+1])
				checkFeed(t, again, s[n:n+1], hl[from:at]...)
				for range 2 {
					checkTold(t, w, told{n + 1, at, openOf(l, s[:n+1])})
					checkTold(t, again, told{n + 1, at, openOf(l, s[:n+1])})
					checkTold(t, other, told{n + 1, len(hitsOf([]string{"ab", "zb"}, s[:n+1])), openOf([]string{"ab", "zb"}, s[:n+1])})
				}
			}
		}
	}
	if !slices.Equal(x.List(), l) {
		t.Errorf("the set is %.40q; want it as it was", x.List())
	}
}
