package probe_test

import (
	"math"
	"runtime"
	"slices"
	"strings"
	"testing"
	"unsafe"
	"weak"

	"jurat/api"
	"jurat/occ"
	"jurat/pats"
	"jurat/probe"
)

// texts is all texts of at most so many bytes out of some, the shortest first.
func texts(some string, most int) []string {
	l := []string{""}
	for i := 0; i < len(l); i++ {
		if len(l[i]) == most {
			continue
		}
		for k := range len(some) {
			l = append(l, l[i]+some[k:k+1])
		}
	}
	return l
}

// subsets calls f with each list of some texts that has one at least, each at most once.
func subsets(some []string, f func([]string)) {
	for bits := 1; bits < 1<<len(some); bits++ {
		var l []string
		for i, s := range some {
			if bits>>i&1 == 1 {
				l = append(l, s)
			}
		}
		f(l)
	}
}

// mixed is a text of some bytes, in which they stand mixed.
func mixed(some string, size int) string {
	b, n := []byte{}, uint32(size)
	for range size {
		n = n*1664525 + 1013904223
		b = append(b, some[int(n>>16)%len(some)])
	}
	return string(b)
}

// all is all bytes, from the least one on.
func all() string {
	var b []byte
	for c := range 256 {
		b = append(b, byte(c))
	}
	return string(b)
}

// setOf is the set of texts that are one.
func setOf(t *testing.T, l ...string) *pats.Set {
	t.Helper()
	x, e := pats.New(l)
	if x == nil || e != api.OK {
		t.Fatalf("pats.New of %d texts %.40q: %v; want a set", len(l), l[:min(len(l), 9)], e)
	}
	return x
}

// lengths is how long the shortest and the longest of patterns is.
func lengths(l []string) (least, most int) {
	least = len(l[0])
	for _, s := range l {
		least, most = min(least, len(s)), max(most, len(s))
	}
	return least, most
}

// keep is how many bytes a tail has at least, where there are so many.
func keep(l []string) int {
	_, most := lengths(l)
	return max(most, 2)
}

// at is the byte of a text at a distance from its end, if there is one.
func at(s string, d int) (byte, bool) {
	if d < 0 || d >= len(s) {
		return 0, false
	}
	return s[len(s)-1-d], true
}

// has is whether one of the patterns has these bytes at distances from d on.
func has(l []string, d int, bytes ...byte) bool {
	return slices.ContainsFunc(l, func(p string) bool {
		for i, c := range bytes {
			if b, ok := at(p, d+i); !ok || b != c {
				return false
			}
		}
		return true
	})
}

// shift is the shift of some bytes, the last one first: the least distance at which a pattern has them, below far, or far.
func shift(l []string, far int, bytes ...byte) int {
	for d := range far {
		if has(l, d, bytes...) {
			return d
		}
	}
	return max(far, 0)
}

// ending is the numbers of the patterns, which are in order, that end at the end of a text.
func ending(l []string, s string) []int {
	var ids []int
	for id, p := range l {
		if strings.HasSuffix(s, p) {
			ids = append(ids, id)
		}
	}
	return ids
}

// refuted is whether a pattern can't end at the end of a stream, as it has more bytes, or at a distance another one.
func refuted(p, s string, d int) bool {
	if len(p) > len(s) {
		return true
	}
	c, ok := at(p, d)
	b, there := at(s, d)
	return ok && there && b != c
}

// holds is whether evidence holds at the end of a stream, by the chapter's words.
func holds(l []string, s string, r api.Record) bool {
	least, _ := lengths(l)
	e := len(s)
	switch r.Kind {
	case api.Skip:
		return len(r.Ids) == 0 && r.N >= 1 && r.N <= least && shift(l, least, s[e-1]) >= r.N
	case api.Leap:
		return len(r.Ids) == 0 && e >= 2 && r.N >= 1 && r.N <= least-1 && shift(l, least-1, s[e-1], s[e-2]) >= r.N
	case api.Miss:
		if len(r.Ids) > 0 || r.N < 1 {
			return false
		}
		for _, p := range l {
			if p[len(p)-1] == s[e-1] && !refuted(p, s, r.N) {
				return false
			}
		}
		return true
	case api.At:
		return r.N == 0 && slices.Equal(r.Ids, ending(l, s))
	}
	return false
}

// greatest is the greatest N with which evidence of a kind holds, 0 if it does with none.
func greatest(l []string, s string, kind int) int {
	least, _ := lengths(l)
	for n := least + 1; n > 0; n-- {
		if holds(l, s, api.Record{Kind: kind, N: n}) {
			return n
		}
	}
	return 0
}

// jump is what Jump is to tell at the end of a stream.
func jump(l []string, s string) api.Record {
	skip, leap := greatest(l, s, api.Skip), greatest(l, s, api.Leap)
	switch {
	case leap > skip:
		return api.Record{Kind: api.Leap, N: leap, R: 1}
	case skip > 0:
		return api.Record{Kind: api.Skip, N: skip, R: 1}
	}
	return api.Record{}
}

// miss is what Miss is to tell at the end of a stream.
func miss(l []string, s string) (int, bool) {
	_, most := lengths(l)
	for n := 1; n < most || n == 1; n++ {
		if holds(l, s, api.Record{Kind: api.Miss, N: n}) {
			return n, true
		}
	}
	return 0, false
}

// evidence is what Of is to tell at the end of a stream.
func evidence(l []string, s string, skip bool) api.Record {
	if r := jump(l, s); skip && r.Kind != 0 {
		return r
	}
	if ids := ending(l, s); len(ids) > 0 {
		return api.Record{Kind: api.At, Ids: ids}
	}
	if n, ok := miss(l, s); ok {
		return api.Record{Kind: api.Miss, N: n, R: 1}
	}
	return api.Record{Kind: api.At}
}

// same is whether two records are, of which lists nil and empty ones are the same.
func same(a, b api.Record) bool {
	return a.Kind == b.Kind && a.N == b.N && a.R == b.R && slices.Equal(a.Ids, b.Ids)
}

// told is what a probe tells at an end.
type told struct {
	jump api.Record
	hits []int
	n    int
	ok   bool
	skip api.Record
	step api.Record
}

// checkTold asks a probe for all that it tells at an end.
func checkTold(t *testing.T, p *probe.Probe, tail string, e int, want told) {
	t.Helper()
	if r := p.Jump(tail, e); !same(r, want.jump) {
		t.Errorf("Jump(%d bytes %.40q, %d): %+v; want %+v", len(tail), tail, e, r, want.jump)
	}
	if ids := p.Hits(tail); !slices.Equal(ids, want.hits) {
		t.Errorf("Hits(%d bytes %.40q): %.60v; want %.60v", len(tail), tail, ids, want.hits)
	}
	if n, ok := p.Miss(tail, e); n != want.n || ok != want.ok {
		t.Errorf("Miss(%d bytes %.40q, %d): %d, %v; want %d, %v", len(tail), tail, e, n, ok, want.n, want.ok)
	}
	checkOf(t, p, tail, e, true, want.skip)
	checkOf(t, p, tail, e, false, want.step)
}

// checkOf asks a probe for the evidence at an end.
func checkOf(t *testing.T, p *probe.Probe, tail string, e int, skip bool, want api.Record) {
	t.Helper()
	if r := p.Of(tail, e, skip); !same(r, want) {
		t.Errorf("Of(%d bytes %.40q, %d, %v): %.200v; want %.200v", len(tail), tail, e, skip, r, want)
	}
}

// tails is all that may be the last bytes up to the end of a stream.
func tails(l []string, s string) []string {
	list := []string{s}
	for from := 1; len(s)-from >= keep(l); from++ {
		list = append(list, s[from:])
	}
	return list
}

// checkEnd asks for all that is told at the end of a stream, by all its tails.
func checkEnd(t *testing.T, p *probe.Probe, l []string, s string) {
	t.Helper()
	n, ok := miss(l, s)
	want := told{jump(l, s), ending(l, s), n, ok, evidence(l, s, true), evidence(l, s, false)}
	for _, tail := range tails(l, s) {
		checkTold(t, p, tail, len(s), want)
	}
	if t.Failed() {
		t.Fatalf("of the %d patterns %.40q, at the end of %.40q", len(l), l[:min(len(l), 9)], s)
	}
}

// checkStream asks that at all ends of a stream, and that evidence at one end is true of all ends that it covers.
func checkStream(t *testing.T, l []string, s string) {
	t.Helper()
	x := setOf(t, l...)
	l = x.List()
	p := probe.New(x)
	for e := 1; e <= len(s); e++ {
		checkEnd(t, p, l, s[:e])
		checkTrue(t, p, l, s, e)
	}
}

// checkTrue asks that the evidence at an end holds, and that where it covers ends no patterns end but those it names.
func checkTrue(t *testing.T, p *probe.Probe, l []string, s string, e int) {
	t.Helper()
	for _, skip := range []bool{true, false} {
		r := p.Of(s[:e], e, skip)
		if !holds(l, s[:e], r) {
			t.Fatalf("of %.40q, at the end %d of %.40q: %+v does not hold", l, e, s, r)
		}
		covers := probe.Covers(r)
		if covers < 1 {
			t.Fatalf("of %.40q, at the end %d of %.40q: %+v covers %d ends", l, e, s, r, covers)
		}
		for k := e; k < e+covers && k <= len(s); k++ {
			if ids := ending(l, s[:k]); !slices.Equal(ids, r.Ids) {
				t.Fatalf("of %.40q, at the end %d of %.40q: %+v, but at the end %d the patterns %v end", l, e, s, r, k, ids)
			}
		}
	}
}

// 24.1, 24.2: the chapter's example.
func TestExample(t *testing.T) {
	p := probe.New(setOf(t, "abc", "bc"))
	const s = "xabcx"
	for e, want := range map[int]api.Record{
		1: {Kind: api.Skip, N: 2, R: 1},
		3: {Kind: api.Skip, N: 1, R: 1},
		4: {Kind: api.At, Ids: []int{0, 1}},
		5: {Kind: api.Skip, N: 2, R: 1},
	} {
		checkOf(t, p, s[:e], e, true, want)
	}
	checkTold(t, p, "xab", 3, told{
		jump: api.Record{Kind: api.Skip, N: 1, R: 1},
		n:    1, ok: true,
		skip: api.Record{Kind: api.Skip, N: 1, R: 1},
		step: api.Record{Kind: api.Miss, N: 1, R: 1},
	})
	for _, tail := range []string{"xabc", "abc"} {
		checkTold(t, p, tail, 4, told{
			hits: []int{0, 1},
			skip: api.Record{Kind: api.At, Ids: []int{0, 1}},
			step: api.Record{Kind: api.At, Ids: []int{0, 1}},
		})
	}
}

// 24.1: a Leap clears more than a Skip, or as much, or less; and where there is one byte alone, none does.
func TestLeapOrSkip(t *testing.T) {
	for _, q := range []struct {
		l    []string
		s    string
		want api.Record
	}{
		// The byte alone is any pattern's last one, both bytes are no pattern's.
		{[]string{"abc", "bca"}, "xa", api.Record{Kind: api.Leap, N: 2, R: 1}},
		{[]string{"abc", "bca"}, "aa", api.Record{Kind: api.Leap, N: 2, R: 1}},
		{[]string{"abcd", "dbca"}, "ba", api.Record{Kind: api.Leap, N: 3, R: 1}},
		// There is but one byte.
		{[]string{"abc", "bca"}, "a", api.Record{}},
		{[]string{"abcd", "bbbb"}, "b", api.Record{}},
		{[]string{"abc"}, "a", api.Record{Kind: api.Skip, N: 2, R: 1}},
		// Both clear as much: of ab the pair stands one further from the end, as b does.
		{[]string{"abc", "bc"}, "ab", api.Record{Kind: api.Skip, N: 1, R: 1}},
		{[]string{"abc"}, "ab", api.Record{Kind: api.Skip, N: 1, R: 1}},
		{[]string{"abcd"}, "ab", api.Record{Kind: api.Skip, N: 2, R: 1}},
		// Two foreign bytes clear one end less than one does.
		{[]string{"abc"}, "xx", api.Record{Kind: api.Skip, N: 3, R: 1}},
		{[]string{"ab"}, "bx", api.Record{Kind: api.Skip, N: 2, R: 1}},
		// Neither clears any.
		{[]string{"abc", "bca"}, "bc", api.Record{}},
		{[]string{"abc", "bca"}, "xbc", api.Record{}},
		{[]string{"a"}, "aa", api.Record{}},
		{[]string{"a"}, "xa", api.Record{}},
		// One end, of a pair whose second byte alone clears none.
		{[]string{"abc", "cab"}, "ab", api.Record{}},
		{[]string{"abcd", "babb", "cccb"}, "ab", api.Record{Kind: api.Leap, N: 1, R: 1}},
		{[]string{"a"}, "ax", api.Record{Kind: api.Skip, N: 1, R: 1}},
		{[]string{"aa"}, "xa", api.Record{Kind: api.Leap, N: 1, R: 1}},
	} {
		p := probe.New(setOf(t, q.l...))
		if r := p.Jump(q.s, len(q.s)); !same(r, q.want) {
			t.Errorf("of %q: Jump(%q): %+v; want %+v", q.l, q.s, r, q.want)
		}
		if want := jump(q.l, q.s); !same(want, q.want) {
			t.Errorf("of %q, at the end of %q: the chapter's words tell %+v; want %+v", q.l, q.s, want, q.want)
		}
		if q.want.Kind != 0 {
			checkOf(t, p, q.s, len(q.s), true, q.want)
		}
	}
}

// 24.1: distances at which all patterns are refuted, where there are some.
func TestMiss(t *testing.T) {
	for _, q := range []struct {
		l  []string
		s  string
		n  int
		ok bool
	}{
		// No pattern ends with the byte.
		{[]string{"a"}, "x", 1, true},
		{[]string{"abc"}, "b", 1, true},
		{[]string{"a", "xab"}, "ax", 1, true},
		// No pattern is longer than one byte, and one ends with it.
		{[]string{"a"}, "a", 0, false},
		{[]string{"a", "x"}, "ax", 0, false},
		// The pattern is refuted near its end, or far from it, or not at all.
		{[]string{"abcd"}, "abxd", 1, true},
		{[]string{"abcd"}, "axcd", 2, true},
		{[]string{"abcd"}, "xbcd", 3, true},
		{[]string{"abcd"}, "abcd", 0, false},
		{[]string{"abcd"}, "xabcd", 0, false},
		{[]string{"abcd"}, "xxxd", 1, true},
		{[]string{"abcd"}, "xxcd", 2, true},
		// It has more bytes than there are.
		{[]string{"abcd"}, "bcd", 1, true},
		{[]string{"abcd"}, "d", 1, true},
		{[]string{"abcd", "bcd"}, "cd", 1, true},
		// One has more bytes, the other is refuted, or not.
		{[]string{"abcd", "xcd"}, "bcd", 2, true},
		{[]string{"abcd", "xcd"}, "xcd", 0, false},
		{[]string{"axbcd", "xbcd"}, "bbcd", 3, true},
		// Several are refuted at one distance.
		{[]string{"aab", "abb", "cabb"}, "cacb", 1, true},
		{[]string{"aaab", "abbb"}, "aacab", 2, true},
		{[]string{"aaab", "abbb"}, "ccab", 2, true},
		{[]string{"aaab", "bbbb"}, "cbab", 3, true},
		{[]string{"caab", "dabb"}, "aaab", 3, true},
		// Each is refuted, at another distance.
		{[]string{"aaab", "abbb"}, "abab", 0, false},
		{[]string{"aab", "abb"}, "bab", 2, true},
		{[]string{"aab", "bbb"}, "bab", 0, false},
		{[]string{"aab", "bbb"}, "abb", 0, false},
		// The distance is beyond the shortest one.
		{[]string{"cb", "acab"}, "xcab", 0, false},
		{[]string{"cb", "acab"}, "xcbb", 1, true},
		{[]string{"ab", "bcab"}, "xcab", 0, false},
		{[]string{"b", "acab"}, "xcab", 0, false},
		// The byte is there, but further on; a pattern that ends otherwise says nothing.
		{[]string{"aaaab", "xab", "aac"}, "aacab", 2, true},
		{[]string{"caab", "aaac", "d"}, "aaab", 3, true},
	} {
		p := probe.New(setOf(t, q.l...))
		for _, tail := range tails(q.l, q.s) {
			if n, ok := p.Miss(tail, len(q.s)); n != q.n || ok != q.ok {
				t.Errorf("of %q: Miss(%q, %d): %d, %v; want %d, %v", q.l, tail, len(q.s), n, ok, q.n, q.ok)
			}
		}
		if n, ok := miss(q.l, q.s); n != q.n || ok != q.ok {
			t.Errorf("of %q, at the end of %q: the chapter's words tell %d, %v; want %d, %v", q.l, q.s, n, ok, q.n, q.ok)
		}
	}
}

// 24.2: a Miss, and where there is none an At without Ids.
func TestOf(t *testing.T) {
	p := probe.New(setOf(t, "aab", "bbb"))
	for _, skip := range []bool{true, false} {
		checkOf(t, p, "abb", 3, skip, api.Record{Kind: api.At})
		checkOf(t, p, "cabb", 4, skip, api.Record{Kind: api.At})
		checkOf(t, p, "aab", 3, skip, api.Record{Kind: api.At, Ids: []int{0}})
		checkOf(t, p, "b", 1, skip, api.Record{Kind: api.Miss, N: 1, R: 1})
		checkOf(t, p, "bb", 2, skip, api.Record{Kind: api.Miss, N: 1, R: 1})
	}
	checkOf(t, p, "acb", 3, true, api.Record{Kind: api.Leap, N: 2, R: 1})
	checkOf(t, p, "acb", 3, false, api.Record{Kind: api.Miss, N: 1, R: 1})
	checkOf(t, p, "cc", 2, true, api.Record{Kind: api.Skip, N: 3, R: 1})
	checkOf(t, p, "cc", 2, false, api.Record{Kind: api.Miss, N: 1, R: 1})
}

// 24.2: how many ends records cover, of all kinds and of none.
func TestCovers(t *testing.T) {
	numbers := []int{math.MinInt, math.MinInt + 1, -2, -1, 0, 1, 2, 3, 255, 1 << 32, api.MaxStream, math.MaxInt}
	kinds := []int{
		math.MinInt, -6, -1, 0, api.Skip, api.Leap, api.Miss, api.At, api.Check, api.End, 7, 8,
		255, 256, 257, 258, 259, 260, 1<<32 + 1, 1<<32 + 2, 1<<32 + 3, 1<<32 + 4, 1 - 1<<32, math.MaxInt,
	}
	for _, kind := range kinds {
		for _, n := range numbers {
			for _, r := range []api.Record{{Kind: kind, N: n}, {Kind: kind, N: n, R: 1}, {Kind: kind, N: n, R: -5, Ids: []int{0}}, {Kind: kind, N: n, R: 9, Ids: []int{7, 3}}} {
				want := 0
				switch kind {
				case api.Skip, api.Leap:
					want = max(n, 0)
				case api.Miss, api.At:
					want = 1
				}
				if got := probe.Covers(r); got != want {
					t.Errorf("Covers(%+v): %d; want %d", r, got, want)
				}
			}
		}
	}
}

// 24.1, 24.2, 24.3: all sets of few short patterns, and all short streams.
func TestShortSets(t *testing.T) {
	for _, q := range []struct {
		some  []string
		bytes string
		most  int
	}{
		{texts("ab", 2)[1:], "abc", 4},
		{[]string{"aa", "ab", "aab", "abb", "bab", "baab", "bbab"}, "ab", 6},
		{[]string{"aaab", "abab", "abbb", "bbba", "cbab"}, "abc", 6},
	} {
		var streams []string
		for _, s := range texts(q.bytes, q.most) {
			// The shorter ones are beginnings of these.
			if len(s) == q.most {
				streams = append(streams, s)
			}
		}
		subsets(q.some, func(l []string) {
			for _, s := range streams {
				checkStream(t, l, s)
			}
		})
	}
}

// 24.1, 24.2, 24.3: more sets, and longer streams, with bytes that stand in no pattern.
func TestMoreSets(t *testing.T) {
	for _, some := range [][]string{
		{"a", "ab", "abc", "ac", "abca", "bca"},
		{"\x00", "\x00\x01\xff", "\x01\x00", "\xff\x00", "\xff\xff"},
		{"he", "hers", "his", "she", "s"},
		{"aaa", "aaaaa", "aabaa", "baaab", "aaab"},
		{"abcab", "bbcab", "cbcab", "bcaab", "abcac", "cab"},
	} {
		used := strings.Join(some, "")
		subsets(some, func(l []string) {
			for _, s := range []string{used, "?" + used, mixed(used, 17), mixed(used+"?", 23), some[1] + "?" + some[0]} {
				checkStream(t, l, s)
			}
		})
	}
}

// 24.1, 24.2: each byte alone is a pattern's last one, or the one ahead of that, or none of a pattern's.
func TestEachByte(t *testing.T) {
	s := all()
	for c := range 256 {
		one, next := s[c:c+1], string([]byte{byte(c + 1)})
		other := string([]byte{byte(c + 128)})
		for _, l := range [][]string{{one}, {one, next + one}, {one + next, next + one}, {one + next + one, next + next}, {other + one + next}} {
			p := probe.New(setOf(t, l...))
			slices.Sort(l)
			for _, tail := range []string{one, next, one + next, next + one, one + one, other + one, one + other, next + next, next + one + next, one + next + one, other + one + next} {
				checkEnd(t, p, l, tail)
			}
		}
	}
	var l []string
	for c := range 256 {
		l = append(l, s[c:c+1])
	}
	p := probe.New(setOf(t, l...))
	for c := range 256 {
		want := api.Record{Kind: api.At, Ids: []int{c}}
		checkTold(t, p, s[:c+1], c+1, told{hits: []int{c}, skip: want, step: want})
	}
}

// 24.1, 24.2: a nil probe tells nothing, and nor does any of an empty tail.
func TestNil(t *testing.T) {
	numbers := []int{math.MinInt, -1, 0, 1, 2, 3, 999, api.MaxStream, math.MaxInt}
	for _, e := range numbers {
		for _, tail := range []string{"", "a", "ab", all()} {
			checkTold(t, nil, tail, e, told{})
		}
		for _, l := range [][]string{{"a"}, {"ab", "b"}, strings.Split("abc", ""), {all()}} {
			checkTold(t, probe.New(setOf(t, l...)), "", e, told{})
		}
		checkTold(t, probe.New(nil), "", e, told{})
	}
}

// 24.1, 24.2: without patterns none ends anywhere, and a Miss of any distance holds.
func TestNilSet(t *testing.T) {
	p := probe.New(nil)
	for _, tail := range []string{"a", "ab", all()} {
		want := api.Record{Kind: api.Miss, N: 1, R: 1}
		checkTold(t, p, tail, len(tail), told{n: 1, ok: true, skip: want, step: want})
	}
}

// P1, R1: tails that have not as many bytes as they should are asked for no answer, but that there is one.
func TestNoTails(t *testing.T) {
	for _, l := range [][]string{{"a"}, {"ab", "b"}, {"abab", "cabab"}, {"aaa", "aaaaaa"}, {all()}} {
		p := probe.New(setOf(t, l...))
		for _, tail := range append(texts("ab", 4), all(), strings.Repeat("a", 999)) {
			for _, e := range []int{math.MinInt, math.MinInt + 1, -2, -1, 0, 1, 2, 3, 4, 5, 6, 7, 255, 256, 257, 1 << 32, api.MaxStream, math.MaxInt - 1, math.MaxInt} {
				p.Jump(tail, e)
				p.Hits(tail)
				p.Miss(tail, e)
				p.Of(tail, e, true)
				p.Of(tail, e, false)
			}
		}
	}
}

// 24.1, 24.2: ends that are far on in a stream, to the last one that there may be.
func TestFarEnds(t *testing.T) {
	l := []string{"abc", "bbca", "bc"}
	p := probe.New(setOf(t, l...))
	for _, s := range append(texts("abc", 5), mixed("abcx", 99)) {
		if len(s) < keep(l) {
			continue
		}
		n, ok := miss(l, s)
		want := told{jump(l, s), ending(l, s), n, ok, evidence(l, s, true), evidence(l, s, false)}
		for _, e := range []int{len(s), len(s) + 1, 1 << 31, 1<<32 + 1, api.MaxStream, math.MaxInt} {
			checkTold(t, p, s, e, want)
		}
	}
}

// 24.1, 24.2: the longest pattern, which differs from the stream nowhere, or at one distance, as far as may be.
func TestLong(t *testing.T) {
	const n = api.MaxPattern
	p := probe.New(setOf(t, strings.Repeat("a", n)))
	short := api.Record{Kind: api.Miss, N: 1, R: 1}
	checkTold(t, p, strings.Repeat("a", n-1), n-1, told{n: 1, ok: true, skip: short, step: short})
	hit := api.Record{Kind: api.At, Ids: []int{0}}
	for _, e := range []int{n, n + 1, n + 2} {
		checkTold(t, p, strings.Repeat("a", n), max(e, n), told{hits: []int{0}, skip: hit, step: hit})
	}
	for _, d := range []int{1, 2, 255, 256, 257, 1 << 15, n - 2, n - 1} {
		tail := strings.Repeat("a", n-1-d) + "b" + strings.Repeat("a", d)
		want := api.Record{Kind: api.Miss, N: d, R: 1}
		jump, skip := api.Record{}, want
		if d == 1 {
			jump = api.Record{Kind: api.Leap, N: n - 1, R: 1}
			skip = jump
		}
		for _, e := range []int{n, n + 1, 1 << 40} {
			checkTold(t, p, tail, e, told{jump: jump, n: d, ok: true, skip: skip, step: want})
		}
		checkTold(t, p, "xx"+tail, n+2, told{jump: jump, n: d, ok: true, skip: skip, step: want})
	}
	foreign := api.Record{Kind: api.Skip, N: n, R: 1}
	checkTold(t, p, strings.Repeat("a", n-1)+"b", n, told{jump: foreign, n: 1, ok: true, skip: foreign, step: short})
	checkTold(t, p, "b", 1, told{jump: foreign, n: 1, ok: true, skip: foreign, step: short})
}

// 24.1, 24.2: a long pattern and a short one, that end alike: a distance beyond the short one refutes neither.
func TestLongAndShort(t *testing.T) {
	const n = api.MaxPattern
	p := probe.New(setOf(t, strings.Repeat("a", n), "baa"))
	none := api.Record{Kind: api.At}
	for _, tail := range []string{strings.Repeat("a", n-4) + "baaa", strings.Repeat("b", n-3) + "aaa"} {
		// The short one is refuted at the distance 2 alone, where the long one is not.
		checkTold(t, p, tail, n, told{skip: none, step: none})
	}
	want := api.Record{Kind: api.Miss, N: 2, R: 1}
	checkTold(t, p, strings.Repeat("a", n-3)+"caa", n, told{n: 2, ok: true, skip: want, step: want})
	// Where it has more bytes than there are, the short one alone is to be refuted.
	checkTold(t, p, strings.Repeat("a", n-1), n-1, told{n: 2, ok: true, skip: want, step: want})
	hit := api.Record{Kind: api.At, Ids: []int{1}}
	checkTold(t, p, strings.Repeat("a", n-3)+"baa", n, told{hits: []int{1}, skip: hit, step: hit})
}

// 24.1, 24.2: the most patterns, all with one last byte.
func TestMostPatterns(t *testing.T) {
	var l []string
	for i := range api.MaxPatterns {
		l = append(l, string([]byte{byte(i >> 8), byte(i), 'e'}))
	}
	p := probe.New(setOf(t, l...))
	for _, id := range []int{0, 1, 255, 256, 30000, api.MaxPatterns - 1} {
		want := api.Record{Kind: api.At, Ids: []int{id}}
		checkTold(t, p, "x"+l[id], 99, told{hits: []int{id}, skip: want, step: want})
	}
	// Both bytes are some pattern's, wherever they stand; but no pattern is both.
	none := api.Record{Kind: api.At}
	checkTold(t, p, "\xff\xffe", 3, told{skip: none, step: none})
	want := api.Record{Kind: api.Miss, N: 1, R: 1}
	checkTold(t, p, "\xffe", 2, told{n: 1, ok: true, skip: want, step: want})
}

// 24.1: as many patterns of one end as there may be, of such as all end alike.
func TestManyAtOneEnd(t *testing.T) {
	const n = 3000
	s := strings.Repeat("a", n)
	var l []string
	var ids []int
	for id := range n {
		l = append(l, s[:id+1])
		ids = append(ids, id)
	}
	p := probe.New(setOf(t, l...))
	for _, e := range []int{1, 2, 3, 1000, n - 1, n, n + 5} {
		want := api.Record{Kind: api.At, Ids: ids[:min(e, n)]}
		checkTold(t, p, s[:min(e, n)], e, told{hits: want.Ids, skip: want, step: want})
	}
}

// 24.1, 24.2, 24.3: long streams, against the truth of layer 15: evidence that is followed from end to end names just the hits.
func TestLongStreams(t *testing.T) {
	own := mixed(all(), 200)
	for _, l := range [][]string{
		{"he", "hers", "his", "she", "hesh"},
		{"hershe", "isheers", "eeeeee", "sssssh", "hishis"},
		{own, own[100:] + own[:99], own[7:55], own[55:], mixed("hers", 50), mixed("heis", 70)},
		{"e", own[3:9], "hers"},
	} {
		x := setOf(t, l...)
		for _, s := range []string{own + own, strings.Join(l, ""), strings.Join(l, "he"), mixed("hers", 2000), mixed("heis", 2000), mixed(all(), 2000)} {
			for _, skip := range []bool{true, false} {
				checkNamed(t, x, s, skip)
			}
		}
	}
}

// checkNamed asks that evidence that is followed through a stream names just its hits.
func checkNamed(t *testing.T, x *pats.Set, s string, skip bool) {
	t.Helper()
	p := probe.New(x)
	var named []api.Hit
	for e := 1; e <= len(s); {
		from := max(0, e-keep(x.List()))
		r := p.Of(s[from:e], e, skip)
		if !holds(x.List(), s[:e], r) {
			t.Fatalf("of %.40q, at the end %d of %.40q: %+v does not hold", x.List(), e, s, r)
		}
		for _, id := range r.Ids {
			named = append(named, api.Hit{End: e, Id: id})
		}
		n := probe.Covers(r)
		if n < 1 {
			t.Fatalf("of %.40q, at the end %d of %.40q: %+v covers %d ends", x.List(), e, s, r, n)
		}
		e += n
	}
	if want := occ.All(x, s); !slices.Equal(named, want) {
		t.Fatalf("of %.40q, in %.40q: evidence names %d hits; want %d", x.List(), s, len(named), len(want))
	}
}

// R4: a probe keeps no piece of a tail, nor does what it tells.
func TestKept(t *testing.T) {
	p := probe.New(setOf(t, "he", "she"))
	// Bytes that are few may lie in one piece of memory with others.
	b := append(make([]byte, 0, 999), "xshe"...)
	whole := weak.Make(&b[0])
	tail := unsafe.String(&b[0], len(b))
	ids, r := p.Hits(tail), p.Of(tail, 4, true)
	p.Jump(tail, 4)
	p.Miss(tail, 4)
	b, tail = nil, ""
	for range 3 {
		runtime.GC()
	}
	if whole.Value() != nil {
		t.Error("the bytes that were handed in are kept")
	}
	if want := []int{0, 1}; !slices.Equal(ids, want) || !slices.Equal(r.Ids, want) {
		t.Errorf("%v, %+v; want %v", ids, r, want)
	}
}

// R3, R4, R5: the same again, whatever was asked ahead; what is written into an answer changes nothing, and probes know nothing of each other.
func TestAgain(t *testing.T) {
	l := []string{"a", "aab", "aabb", "abb", "b", "bba", "bbaaa", "bbab", "z"}
	x := setOf(t, l...)
	p, other := probe.New(x), probe.New(setOf(t, "ab", "zb"))
	s := mixed("abz", 60)
	for range 2 {
		for e := 1; e <= len(s); e++ {
			ids, r := p.Hits(s[:e]), p.Of(s[:e], e, false)
			for _, l := range [][]int{ids, r.Ids} {
				l = l[:cap(l)]
				for i := range l {
					l[i] = -7
				}
			}
			if again := p.Hits(s[:e]); !slices.Equal(again, ending(l, s[:e])) {
				t.Errorf("Hits(%.40q): %v, behind an answer that was written into; want %v", s[:e], again, ending(l, s[:e]))
			}
			other.Of(s[:e], e, true)
			checkEnd(t, p, l, s[:e])
			checkEnd(t, other, []string{"ab", "zb"}, s[:e])
			checkEnd(t, probe.New(x), l, s[:e])
		}
	}
	if !slices.Equal(x.List(), l) {
		t.Errorf("the set is %.40q; want it as it was", x.List())
	}
}
