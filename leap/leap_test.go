package leap_test

import (
	"fmt"
	"math"
	"runtime"
	"slices"
	"strings"
	"testing"
	"unsafe"
	"weak"

	"jurat/api"
	"jurat/carry"
	"jurat/leap"
	"jurat/occ"
	"jurat/pats"
	"jurat/probe"
)

// texts is all texts of at most so many bytes out of some, the shortest first.
func texts(some string, most int) []string {
	l := []string{""}
	for i := 0; i < len(l); i++ {
		if len(l[i]) == most {
			continue
		}
		for k := range len(some) {
			l = append(l, l[i]+some[k:k+1])
		}
	}
	return l
}

// subsets calls f with each list of some texts that has one at least, each at most once.
func subsets(some []string, f func([]string)) {
	for bits := 1; bits < 1<<len(some); bits++ {
		var l []string
		for i, s := range some {
			if bits>>i&1 == 1 {
				l = append(l, s)
			}
		}
		f(l)
	}
}

// partings calls f with each way to part a text into parts that are not empty.
func partings(s string, f func([]string)) {
	for cuts := range 1 << max(len(s)-1, 0) {
		var l []string
		from := 0
		for to := 1; to <= len(s); to++ {
			if to == len(s) || cuts>>(to-1)&1 == 1 {
				l = append(l, s[from:to])
				from = to
			}
		}
		f(l)
	}
}

// even is a text in parts of one size, but for the last one.
func even(s string, size int) []string {
	var l []string
	for len(s) > size {
		l = append(l, s[:size])
		s = s[size:]
	}
	return append(l, s)
}

// mixed is a text of some bytes, in which they stand mixed.
func mixed(some string, size int) string {
	b, n := []byte{}, uint32(size)
	for range size {
		n = n*1664525 + 1013904223
		b = append(b, some[int(n>>16)%len(some)])
	}
	return string(b)
}

// all is all bytes, from the least one on.
func all() string {
	var b []byte
	for c := range 256 {
		b = append(b, byte(c))
	}
	return string(b)
}

// far is numbers that are no ends of a short stream, and such as are one in fewer bits.
func far() []int {
	return []int{math.MinInt, math.MinInt + 1, -1 << 62, -1 << 32, 1 - 1<<32, 2 - 1<<32, -carry.Most, -3, -2, -1, 1 << 20, 1 << 32, 1<<32 + 1, 1<<32 + 2, api.MaxStream - 1, api.MaxStream, 1 << 62, math.MaxInt - 1, math.MaxInt}
}

// setOf is the set of texts that are one.
func setOf(t *testing.T, l ...string) *pats.Set {
	t.Helper()
	x, e := pats.New(l)
	if x == nil || e != api.OK {
		t.Fatalf("pats.New of %d texts %.40q: %v; want a set", len(l), l[:min(len(l), 9)], e)
	}
	return x
}

// carryOf is a carry of a number that there is, to which parts came.
func carryOf(t *testing.T, keep int, parts ...string) *carry.Carry {
	t.Helper()
	k, e := carry.New(keep)
	if k == nil || e != api.OK {
		t.Fatalf("carry.New(%d): %v, %v; want a carry", keep, k, e)
	}
	for _, s := range parts {
		k.Add(s)
	}
	return k
}

// pass lets a carry be done with the bytes up to an end that there is.
func pass(t *testing.T, k *carry.Carry, e int) {
	t.Helper()
	if n := k.Pass(e); n != api.OK {
		t.Fatalf("Pass(%d), of %d bytes, done with %d: %v; want %v", e, k.Seen(), k.Done(), n, api.OK)
	}
}

// longest is how many bytes the longest of patterns has, and at least 2.
func longest(l []string) int {
	n := 2
	for _, s := range l {
		n = max(n, len(s))
	}
	return n
}

// ending is the numbers of the patterns, which are in order, that end at the end of a text.
func ending(l []string, s string) []int {
	var ids []int
	for id, p := range l {
		if strings.HasSuffix(s, p) {
			ids = append(ids, id)
		}
	}
	return ids
}

// back is the byte of a text at a distance from its end, if there is one.
func back(s string, d int) (byte, bool) {
	if d < 0 || d >= len(s) {
		return 0, false
	}
	return s[len(s)-1-d], true
}

// cleared is whether no pattern has these bytes, the last one first, at a distance below n, nor fewer than n bytes ahead of them.
func cleared(l []string, n int, bytes ...byte) bool {
	return !slices.ContainsFunc(l, func(p string) bool {
		if len(p) < n+len(bytes)-1 {
			return true
		}
		for d := range n {
			same := true
			for i, c := range bytes {
				b, ok := back(p, d+i)
				same = same && ok && b == c
			}
			if same {
				return true
			}
		}
		return false
	})
}

// refuted is whether a pattern can't end at the end of a stream, as it has more bytes, or at a distance another one.
func refuted(p, s string, d int) bool {
	if len(p) > len(s) {
		return true
	}
	c, ok := back(p, d)
	b, there := back(s, d)
	return ok && there && b != c
}

// holds is whether evidence holds at the end of a stream, by the words of chapter 24.
func holds(l []string, s string, r api.Record) bool {
	e := len(s)
	switch r.Kind {
	case api.Skip:
		return len(r.Ids) == 0 && r.N >= 1 && cleared(l, r.N, s[e-1])
	case api.Leap:
		return len(r.Ids) == 0 && r.N >= 1 && e >= 2 && cleared(l, r.N, s[e-1], s[e-2])
	case api.Miss:
		for _, p := range l {
			if p[len(p)-1] == s[e-1] && !refuted(p, s, r.N) {
				return false
			}
		}
		return len(r.Ids) == 0 && r.N >= 1
	case api.At:
		return r.N == 0 && slices.Equal(r.Ids, ending(l, s))
	}
	return false
}

// sameRecord is whether two records are, of which lists nil and empty ones are the same.
func sameRecord(a, b api.Record) bool {
	return a.Kind == b.Kind && a.N == b.N && a.R == b.R && slices.Equal(a.Ids, b.Ids)
}

// same is whether two lists of records are.
func same(a, b []api.Record) bool {
	return slices.EqualFunc(a, b, sameRecord)
}

// short is how anything looks, as far as it is short.
func short(v any) string {
	s := fmt.Sprintf("%+v", v)
	return s[:min(len(s), 200)]
}

// model is a loop and a carry by the chapter's words: the evidence, all that came, and how far one is done.
type model struct {
	p    *probe.Probe
	skip bool
	came string
	done int
}

// evidence is what the probe tells at the end behind one, if there is such an end, and its last bytes are told.
func (m model) evidence(at int) (api.Record, bool) {
	if at < 0 || at >= len(m.came) || at+1 < m.done {
		return api.Record{}, false
	}
	return m.p.Of(m.came[:at+1], at+1, m.skip), true
}

// next is what Next is to tell.
func (m model) next(at int) (api.Record, int, bool) {
	r, ok := m.evidence(at)
	if !ok || at+probe.Covers(r) > len(m.came) {
		return api.Record{}, 0, false
	}
	return r, at + probe.Covers(r), true
}

// run is what Run is to tell, and up to which end the carry is done then.
func (m model) run(at int) ([]api.Record, int, int) {
	var l []api.Record
	for {
		r, to, ok := m.next(at)
		if !ok {
			return l, at, m.done
		}
		l, at, m.done = append(l, r), to, to
	}
}

// last is what Last is to tell.
func (m model) last(at int) (api.Record, bool) {
	r, ok := m.evidence(at)
	if left := len(m.came) - at; ok && probe.Covers(r) > left {
		r.N = left
	}
	return r, ok
}

func checkNext(t *testing.T, l *leap.Loop, k *carry.Carry, at int, want api.Record, end int, ok bool) {
	t.Helper()
	if r, e, o := l.Next(k, at); !sameRecord(r, want) || e != end || o != ok {
		t.Errorf("Next(%d): %s, %d, %v; want %s, %d, %v", at, short(r), e, o, short(want), end, ok)
	}
}

func checkRun(t *testing.T, l *leap.Loop, k *carry.Carry, at int, want []api.Record, end int) {
	t.Helper()
	if rs, e := l.Run(k, at); !same(rs, want) || e != end {
		t.Errorf("Run(%d): %d records %s, %d; want %d records %s, %d", at, len(rs), short(rs), e, len(want), short(want), end)
	}
}

func checkLast(t *testing.T, l *leap.Loop, k *carry.Carry, at int, want api.Record, ok bool) {
	t.Helper()
	if r, o := l.Last(k, at); !sameRecord(r, want) || o != ok {
		t.Errorf("Last(%d): %s, %v; want %s, %v", at, short(r), o, short(want), ok)
	}
}

// checkNone asks that nothing is found behind an end.
func checkNone(t *testing.T, l *leap.Loop, k *carry.Carry, at int) {
	t.Helper()
	checkNext(t, l, k, at, api.Record{}, 0, false)
	checkRun(t, l, k, at, nil, at)
	checkLast(t, l, k, at, api.Record{}, false)
}

// checkCarry asks how many bytes came to a carry, and up to which end it is done.
func checkCarry(t *testing.T, k *carry.Carry, seen, done int) {
	t.Helper()
	if k.Seen() != seen || k.Done() != done {
		t.Errorf("of the carry %d bytes came, and it is done with %d; want %d, %d", k.Seen(), k.Done(), seen, done)
	}
}

// checkAt asks a loop for all that it tells behind an end, of a stream that came in parts and is done with up to an end.
func checkAt(t *testing.T, l *leap.Loop, keep int, parts []string, m model, at int) {
	t.Helper()
	k := carryOf(t, keep, parts...)
	pass(t, k, m.done)
	for range 2 {
		r, to, ok := m.next(at)
		checkNext(t, l, k, at, r, to, ok)
		r, ok = m.last(at)
		checkLast(t, l, k, at, r, ok)
		checkCarry(t, k, len(m.came), m.done)
	}
	rs, to, done := m.run(at)
	checkRun(t, l, k, at, rs, to)
	checkCarry(t, k, len(m.came), done)
	if t.Failed() {
		t.Fatalf("of %d bytes %.40q, done with %d, kept %d, skipping %v", len(m.came), m.came, m.done, keep, m.skip)
	}
}

// through is all records of a stream in parts, and what Last tells, if ends are left then.
func through(t *testing.T, l *leap.Loop, keep int, parts []string) []api.Record {
	t.Helper()
	k := carryOf(t, keep)
	var records []api.Record
	at := 0
	for _, s := range parts {
		k.Add(s)
		rs, to := l.Run(k, at)
		if to < at || to > k.Seen() || (len(rs) == 0) != (to == at) || k.Done() != to {
			t.Fatalf("Run(%d), of %d bytes: %d records, %d; and done with %d", at, k.Seen(), len(rs), to, k.Done())
		}
		records, at = append(records, rs...), to
	}
	if r, ok := l.Last(k, at); ok != (at < k.Seen()) || ok && at+probe.Covers(r) != k.Seen() {
		t.Fatalf("Last(%d), of %d bytes: %+v, %v", at, k.Seen(), r, ok)
	} else if ok {
		records = append(records, r)
	}
	return records
}

// checkRecords asks that records cover each end of a stream once, hold there, and name just the hits.
func checkRecords(t *testing.T, x *pats.Set, s string, skip bool, records []api.Record) {
	t.Helper()
	l, e := x.List(), 1
	var named []api.Hit
	for _, r := range records {
		if e > len(s) {
			t.Fatalf("of the patterns %.40q, in %.40q: %+v at the end %d", l, s, r, e)
		}
		if !holds(l, s[:e], r) {
			t.Fatalf("of the patterns %.40q, in %.40q: %+v does not hold at the end %d", l, s, r, e)
		}
		if !skip && r.Kind != api.Miss && r.Kind != api.At {
			t.Fatalf("of the patterns %.40q, in %.40q, not skipping: %+v at the end %d", l, s, r, e)
		}
		for _, id := range r.Ids {
			named = append(named, api.Hit{End: e, Id: id})
		}
		e += probe.Covers(r)
	}
	if e != len(s)+1 {
		t.Fatalf("of the patterns %.40q, in %.40q: the records cover %d ends; want %d", l, s, e-1, len(s))
	}
	if want := occ.All(x, s); !slices.Equal(named, want) {
		t.Fatalf("of the patterns %.40q, in %.40q: the records name %d hits; want %d", l, s, len(named), len(want))
	}
}

// sets is lists of patterns that clear ends in many ways, and bytes to make streams of.
func sets() []struct {
	some  []string
	bytes string
	most  int
} {
	return []struct {
		some  []string
		bytes string
		most  int
	}{
		{texts("ab", 2)[1:], "abx", 4},
		{[]string{"abc", "bc", "bca", "abca"}, "abcx", 4},
		{[]string{"aab", "abb", "bab", "baab", "bbab"}, "ab", 6},
		{[]string{"aaaa", "aaab", "abab", "bbbba"}, "abx", 5},
	}
}

// 26.1: how many bytes have to be carried over.
func TestKeep(t *testing.T) {
	for _, skip := range []bool{true, false} {
		for _, q := range []struct {
			l    []string
			keep int
		}{
			{[]string{"a"}, 2},
			{[]string{"a", "b", "\x00"}, 2},
			{[]string{"ab"}, 2},
			{[]string{"a", "bc"}, 2},
			{[]string{"abc"}, 3},
			{[]string{"abc", "d", "ef"}, 3},
			{[]string{"d", "ef", "efghi"}, 5},
			{[]string{all(), "a"}, 256},
			{[]string{strings.Repeat("a", api.MaxPattern)}, api.MaxPattern},
		} {
			if n := leap.New(setOf(t, q.l...), skip).Keep(); n != q.keep {
				t.Errorf("Keep, of %.40q: %d; want %d", q.l, n, q.keep)
			}
		}
		if n := leap.New(nil, skip).Keep(); n != 2 {
			t.Errorf("Keep, of a nil set: %d; want 2", n)
		}
	}
	var l *leap.Loop
	if n := l.Keep(); n != 0 {
		t.Errorf("Keep of a nil loop: %d; want 0", n)
	}
}

// 26.1, 26.2: the chapter's example.
func TestExample(t *testing.T) {
	l := leap.New(setOf(t, "abc", "bc"), true)
	two := api.Record{Kind: api.Skip, N: 2, R: 1}
	one := api.Record{Kind: api.Skip, N: 1, R: 1}
	hits := api.Record{Kind: api.At, Ids: []int{0, 1}}
	k := carryOf(t, l.Keep(), "xabcx")
	checkNext(t, l, k, 0, two, 2, true)
	checkNext(t, l, k, 1, two, 3, true)
	checkNext(t, l, k, 2, one, 3, true)
	checkNext(t, l, k, 3, hits, 4, true)
	checkNext(t, l, k, 4, api.Record{}, 0, false)
	checkCarry(t, k, 5, 0)
	checkRun(t, l, k, 0, []api.Record{two, one, hits}, 4)
	checkCarry(t, k, 5, 4)
	checkRun(t, l, k, 4, nil, 4)
	checkLast(t, l, k, 4, one, true)
	checkCarry(t, k, 5, 4)
	k.Add("x")
	checkLast(t, l, k, 4, two, true)
	checkRun(t, l, k, 4, []api.Record{two}, 6)
	checkCarry(t, k, 6, 6)
	checkNone(t, l, k, 6)
}

// 26.1, 26.2: the same without skips: an end by each record, and none is left.
func TestStep(t *testing.T) {
	l := leap.New(setOf(t, "abc", "bc"), false)
	miss := api.Record{Kind: api.Miss, N: 1, R: 1}
	hits := api.Record{Kind: api.At, Ids: []int{0, 1}}
	k := carryOf(t, l.Keep(), "xabcx")
	checkLast(t, l, k, 3, hits, true)
	checkLast(t, l, k, 4, miss, true)
	checkRun(t, l, k, 0, []api.Record{miss, miss, miss, hits, miss}, 5)
	checkCarry(t, k, 5, 5)
	checkNone(t, l, k, 5)
}

// 26.1, 26.2: evidence that covers just as many ends as are left, one more, and far more.
func TestLeft(t *testing.T) {
	for _, q := range []struct {
		l    []string
		head string
		want api.Record
	}{
		{[]string{"abcde"}, "x", api.Record{Kind: api.Skip, N: 5, R: 1}},
		{[]string{"abcde"}, "a", api.Record{Kind: api.Skip, N: 4, R: 1}},
		{[]string{"abcde"}, "d", api.Record{Kind: api.Skip, N: 1, R: 1}},
		{[]string{"abcde", "bcdea"}, "xa", api.Record{Kind: api.Leap, N: 4, R: 1}},
		{[]string{"abcde", "bcdea"}, "ab", api.Record{Kind: api.Skip, N: 3, R: 1}},
		{[]string{"abcde"}, "abcde", api.Record{Kind: api.At, Ids: []int{0}}},
		{[]string{"abcde"}, "xbcde", api.Record{Kind: api.Miss, N: 4, R: 1}},
		{[]string{"aab", "bbb"}, "abb", api.Record{Kind: api.At}},
	} {
		l := leap.New(setOf(t, q.l...), true)
		at, n := len(q.head)-1, probe.Covers(q.want)
		for more := range n + 3 {
			k := carryOf(t, l.Keep(), q.head+"aaaaaaaa"[:more])
			pass(t, k, at)
			if more+1 >= n {
				checkNext(t, l, k, at, q.want, at+n, true)
				checkLast(t, l, k, at, q.want, true)
				continue
			}
			checkNext(t, l, k, at, api.Record{}, 0, false)
			checkRun(t, l, k, at, nil, at)
			cut := q.want
			cut.N = more + 1
			checkLast(t, l, k, at, cut, true)
			checkCarry(t, k, len(q.head)+more, at)
		}
		if t.Failed() {
			t.Fatalf("of %q, behind the end %d of %q", q.l, at, q.head)
		}
	}
}

// 26.1, 26.2: all ends, and such as are none, of short streams of short patterns, done with up to each end.
func TestAllEnds(t *testing.T) {
	for _, q := range sets() {
		subsets(q.some, func(l []string) {
			x := setOf(t, l...)
			for _, skip := range []bool{true, false} {
				loop, p := leap.New(x, skip), probe.New(x)
				for _, s := range []string{"", q.bytes[:1], q.bytes[1:2], mixed(q.bytes, 3), mixed(q.bytes, 4), mixed(q.bytes, 7), strings.Join(l, "")} {
					for done := range len(s) + 1 {
						m := model{p, skip, s, done}
						for at := -2; at < len(s)+3; at++ {
							checkAt(t, loop, longest(l), []string{s}, m, at)
						}
					}
				}
			}
		})
	}
}

// 26.1, 26.2: ends that are far from all that came find nothing, and change nothing.
func TestFarEnds(t *testing.T) {
	for _, q := range [][]string{{"a"}, {"ab", "b"}, {"abc", "bca"}, {"xxxxx"}} {
		for _, skip := range []bool{true, false} {
			l := leap.New(setOf(t, q...), skip)
			for _, s := range []string{"", "a", "abcab", mixed("abc", 99)} {
				k := carryOf(t, l.Keep(), s)
				for _, done := range []int{0, len(s) / 2, len(s)} {
					pass(t, k, done)
					for _, at := range append(far(), len(s), len(s)+1, done-2) {
						checkNone(t, l, k, at)
						checkCarry(t, k, len(s), done)
					}
				}
			}
		}
	}
}

// 26.1, 26.2: a nil loop, one of a nil set, and one that is given a nil carry find nothing.
func TestNil(t *testing.T) {
	var none *leap.Loop
	places := append(far(), 0, 1, 2, 3, 4, 5, 6)
	for _, skip := range []bool{true, false} {
		for _, at := range places {
			for _, l := range []*leap.Loop{none, leap.New(nil, skip)} {
				k := carryOf(t, 2, "abcab")
				for _, done := range []int{0, 1, 3, 5} {
					pass(t, k, done)
					checkNone(t, l, k, at)
					checkCarry(t, k, 5, done)
				}
				checkNone(t, l, nil, at)
			}
			for _, q := range [][]string{{"a"}, {"abc", "bc"}} {
				checkNone(t, leap.New(setOf(t, q...), skip), nil, at)
			}
		}
	}
}

// 26.2, 26.3: all short streams of short patterns, in all partings: the records are the same, and what they say is true.
func TestPartings(t *testing.T) {
	for _, q := range sets() {
		streams := texts(q.bytes, q.most)
		subsets(q.some, func(l []string) {
			x := setOf(t, l...)
			for _, skip := range []bool{true, false} {
				loop := leap.New(x, skip)
				for _, s := range streams {
					want := through(t, loop, loop.Keep(), []string{s})
					checkRecords(t, x, s, skip, want)
					partings(s, func(parts []string) {
						if got := through(t, loop, loop.Keep(), parts); !same(got, want) {
							t.Fatalf("of %q, skipping %v, of the parts %q: %v; want %v", l, skip, parts, got, want)
						}
					})
				}
			}
		})
	}
}

// 26.1, 26.2: what is told behind each end hangs on the stream and on how far one is done, not on its parts, nor on how many more bytes are carried over.
func TestParts(t *testing.T) {
	for _, l := range [][]string{{"a"}, {"b", "ab"}, {"abc", "bca"}, {"abc", "bc"}, {"xabca", "bca", "aab"}} {
		x := setOf(t, l...)
		for _, skip := range []bool{true, false} {
			loop, p := leap.New(x, skip), probe.New(x)
			for _, s := range []string{"abcabx", "xxbcab", "aabcax"} {
				for _, keep := range []int{longest(l), longest(l) + 1, 9, carry.Most} {
					partings(s, func(parts []string) {
						parts = append([]string{""}, append(parts, "")...)
						for done := range len(s) + 1 {
							for at := done - 2; at < len(s)+1; at++ {
								checkAt(t, loop, keep, parts, model{p, skip, s, done}, at)
							}
						}
					})
				}
			}
		}
	}
}

// 26.1 to 26.3: each byte is a pattern's last one, or one ahead of that, or none of a pattern's.
func TestEachByte(t *testing.T) {
	s := all()
	for c := range 256 {
		one, next, other := s[c:c+1], string([]byte{byte(c + 1)}), string([]byte{byte(c + 128)})
		for _, l := range [][]string{{one}, {one, next + one}, {one + next + one, next + next}, {other + one + next}} {
			x := setOf(t, l...)
			for _, skip := range []bool{true, false} {
				loop := leap.New(x, skip)
				stream := strings.Join([]string{one, next, other, one, one, next, next + one + next + other + one + next + one, other}, "")
				want := through(t, loop, loop.Keep(), []string{stream})
				checkRecords(t, x, stream, skip, want)
				if got := through(t, loop, loop.Keep(), even(stream, 2)); !same(got, want) {
					t.Fatalf("of %q, skipping %v, of %q in parts of 2: %v; want %v", l, skip, stream, got, want)
				}
			}
		}
	}
}

// 26.3, T3, T4: long streams in parts of many lengths, against the truth of layer 15.
func TestLongStreams(t *testing.T) {
	own := mixed(all(), 200)
	for _, l := range [][]string{
		{"he", "hers", "his", "she", "hesh"},
		{"hershe", "isheers", "eeeeee", "sssssh", "hishis"},
		{own, own[100:] + own[:99], own[7:55], own[55:], mixed("hers", 50), mixed("heis", 70)},
		{"e", own[3:9], "hers"},
	} {
		x := setOf(t, l...)
		for _, s := range []string{own + own, strings.Join(l, "he"), mixed("hers", 1000), mixed("heis", 1000), mixed(all(), 1000)} {
			for _, skip := range []bool{true, false} {
				loop := leap.New(x, skip)
				want := through(t, loop, loop.Keep(), []string{s})
				checkRecords(t, x, s, skip, want)
				for _, size := range []int{1, 2, 3, 7, 64, 199, 200, 201, 999} {
					for _, keep := range []int{loop.Keep(), 2*loop.Keep() + 1} {
						if got := through(t, loop, keep, even(s, size)); !same(got, want) {
							t.Fatalf("of %.40q, skipping %v, in parts of %d: %d records; want %d", l, skip, size, len(got), len(want))
						}
					}
				}
			}
		}
	}
}

// 26.1, 26.2: the longest pattern, which is there whole, or but for one byte.
func TestLongest(t *testing.T) {
	const n = api.MaxPattern
	whole := strings.Repeat("a", n)
	hit := api.Record{Kind: api.At, Ids: []int{0}}
	for _, skip := range []bool{true, false} {
		l := leap.New(setOf(t, whole), skip)
		for _, ahead := range []string{"", "b", "aaa", "ba"} {
			k := carryOf(t, l.Keep(), ahead, whole[1:])
			pass(t, k, k.Seen())
			k.Add("ab")
			checkNext(t, l, k, len(ahead)+n-1, hit, len(ahead)+n, true)
			checkLast(t, l, k, len(ahead)+n-1, hit, true)
			foreign := api.Record{Kind: api.Skip, N: n, R: 1}
			step := api.Record{Kind: api.Miss, N: 1, R: 1}
			if skip {
				checkNext(t, l, k, len(ahead)+n, api.Record{}, 0, false)
				checkRun(t, l, k, len(ahead)+n-1, []api.Record{hit}, len(ahead)+n)
				foreign.N = 1
				checkLast(t, l, k, len(ahead)+n, foreign, true)
				k.Add(whole[2:])
				checkLast(t, l, k, len(ahead)+n, api.Record{Kind: api.Skip, N: n - 1, R: 1}, true)
				k.Add("a")
				foreign.N = n
				checkNext(t, l, k, len(ahead)+n, foreign, len(ahead)+2*n, true)
				checkRun(t, l, k, len(ahead)+n, []api.Record{foreign}, len(ahead)+2*n)
			} else {
				checkRun(t, l, k, len(ahead)+n-1, []api.Record{hit, step}, len(ahead)+n+1)
			}
			checkNone(t, l, k, k.Seen())
		}
		for _, d := range []int{2, 3, 256, 1 << 15, n - 2, n - 1} {
			k := carryOf(t, l.Keep(), whole[:n-1-d], "c", whole[:d+1])
			pass(t, k, n)
			miss := api.Record{Kind: api.Miss, N: d, R: 1}
			checkNext(t, l, k, n-1, miss, n, true)
			miss.N++
			if d == n-1 {
				miss = hit
			}
			checkNext(t, l, k, n, miss, n+1, true)
		}
	}
}

// 26.2: all that is wanted of one end is taken as it comes: where bytes wait, ends are covered once, and none twice.
func TestWait(t *testing.T) {
	const n = 300
	p := strings.Repeat("a", n)
	l := leap.New(setOf(t, p), true)
	k := carryOf(t, l.Keep())
	for i := range 3*n - 1 {
		k.Add("x")
		at := i / n * n
		if i%n < n-1 {
			checkRun(t, l, k, at, nil, at)
			checkLast(t, l, k, at, api.Record{Kind: api.Skip, N: i%n + 1, R: 1}, true)
			checkCarry(t, k, i+1, at)
			continue
		}
		checkRun(t, l, k, at, []api.Record{{Kind: api.Skip, N: n, R: 1}}, at+n)
		checkCarry(t, k, i+1, at+n)
	}
}

// R1, R7: carries that keep fewer bytes than they should are asked for no answer, but that there is one.
func TestFewKept(t *testing.T) {
	for _, q := range [][]string{{"a"}, {"ab", "b"}, {"abab", "cabab"}, {"aaa", "aaaaaa"}, {all()}} {
		for _, skip := range []bool{true, false} {
			l := leap.New(setOf(t, q...), skip)
			for keep := 1; keep < 7; keep++ {
				for _, s := range append(texts("ab", 4), mixed("ab", 30), all()) {
					for at := -1; at < 9; at++ {
						k := carryOf(t, keep, s)
						pass(t, k, len(s)/2)
						l.Next(k, at)
						l.Last(k, at)
						l.Run(k, at)
					}
				}
			}
		}
	}
}

// 26.1: where a carry has not the last bytes up to an end, as it keeps too few, nothing is found there.
func TestTooFewKept(t *testing.T) {
	for _, skip := range []bool{true, false} {
		l := leap.New(setOf(t, "cabab", "abab"), skip)
		k := carryOf(t, 4, "cabab")
		if _, _, ok := l.Next(k, 3); !ok {
			t.Error("Next(3): nothing, though all bytes up to there are told")
		}
		checkNone(t, l, k, 4)
		l = leap.New(setOf(t, "a"), skip)
		k = carryOf(t, 1, "aa")
		checkNext(t, l, k, 0, api.Record{Kind: api.At, Ids: []int{0}}, 1, true)
		checkNone(t, l, k, 1)
	}
}

// inUse is how much memory is in use.
func inUse() int {
	var m runtime.MemStats
	for range 3 {
		runtime.GC()
	}
	runtime.ReadMemStats(&m)
	return int(m.HeapAlloc)
}

// taken is how much memory f takes in all, whatever it gives up again.
func taken(f func()) int {
	var a, b runtime.MemStats
	runtime.ReadMemStats(&a)
	f()
	runtime.ReadMemStats(&b)
	return int(b.TotalAlloc - a.TotalAlloc)
}

// 26.2, T7: behind each part no more bytes are kept than the longest and the shortest pattern have, and that part; and no more memory is, the longer the stream is.
func TestLittle(t *testing.T) {
	for _, l := range [][]string{{"hers", "she"}, {mixed("hers", 70), "hersshe"}, {strings.Repeat("he", 400), strings.Repeat("s", 500)}} {
		x := setOf(t, l...)
		for _, skip := range []bool{true, false} {
			loop := leap.New(x, skip)
			k := carryOf(t, loop.Keep())
			at, first := 0, 0
			for i := range 200 {
				part := mixed("hers?", i*37%400+1)
				k.Add(part)
				_, at = loop.Run(k, at)
				if most := x.Most() + x.Least() + len(part) + 2; k.Held() > most {
					t.Fatalf("of %.40q, behind a part of %d bytes: %d are kept; want %d at most", l, len(part), k.Held(), most)
				}
				if i == 99 {
					first = inUse()
				}
			}
			if more := inUse() - first; more > 1<<16 {
				t.Errorf("of %.40q: behind twice as many parts %d bytes more are in use", l, more)
			}
			runtime.KeepAlive(k)
			runtime.KeepAlive(loop)
		}
	}
}

// 26.2: where each end is told for itself, the last bytes up to it, which are many, are not copied each time.
func TestEndByEnd(t *testing.T) {
	long := strings.Repeat("ab", api.MaxPattern/2)
	s := mixed("abc", 1<<18)
	for _, skip := range []bool{true, false} {
		l := leap.New(setOf(t, long, "b"), skip)
		k := carryOf(t, l.Keep(), s[:len(s)/2])
		_, at := l.Run(k, 0)
		k.Add(s[len(s)/2:])
		n := taken(func() { _, at = l.Run(k, at) })
		if at != len(s) {
			t.Errorf("Run, of %d bytes: it comes to the end %d", len(s), at)
		}
		if n > 999*len(s) {
			t.Errorf("Run, of %d bytes: it took %d bytes of memory", len(s)/2, n)
		}
	}
}

// R4: nothing of what is told shares memory, and bytes of a stream are not kept.
func TestApart(t *testing.T) {
	x := setOf(t, "a", "aa", "ba", "b")
	s := mixed("ab", 40)
	for _, skip := range []bool{true, false} {
		l, m := leap.New(x, skip), model{probe.New(x), skip, s, 0}
		want, _, _ := m.run(0)
		k := carryOf(t, l.Keep(), s)
		first, _, _ := l.Next(k, 0)
		last, _ := l.Last(k, 0)
		rs, _ := l.Run(k, 0)
		for i := range rs {
			ids := rs[i].Ids[:cap(rs[i].Ids)]
			for j := range ids {
				ids[j] = -7
			}
			if more := slices.Clone(want[i+1:]); !same(rs[i+1:], more) {
				t.Fatalf("skipping %v: writing into the record %d changed one behind it", skip, i)
			}
		}
		if !sameRecord(first, want[0]) || !sameRecord(last, want[0]) {
			t.Errorf("skipping %v: %+v, %+v; want %+v", skip, first, last, want[0])
		}
		checkRun(t, l, carryOf(t, l.Keep(), s), 0, want, len(s))
	}
	if want := []string{"a", "aa", "b", "ba"}; !slices.Equal(x.List(), want) {
		t.Errorf("the set is %q; want it as it was", x.List())
	}
}

// R4: a loop keeps no piece of a stream, nor does what it tells.
func TestKept(t *testing.T) {
	l := leap.New(setOf(t, "he", "she"), true)
	b := []byte(strings.Repeat("xshe", 999))
	whole := weak.Make(&b[0])
	s := unsafe.String(&b[0], len(b))
	k := carryOf(t, l.Keep(), s)
	rs, to := l.Run(k, 0)
	b, s, k = nil, "", nil
	for range 3 {
		runtime.GC()
	}
	if whole.Value() != nil {
		t.Error("the bytes that came are kept")
	}
	if to != 999*4 || len(rs) == 0 {
		t.Errorf("%d records, up to the end %d; want some, up to %d", len(rs), to, 999*4)
	}
	runtime.KeepAlive(l)
}

// R5: the same again; a loop knows nothing of a stream but what its carry tells, and loops know nothing of each other.
func TestAgain(t *testing.T) {
	x, other := setOf(t, "abc", "bc", "aab"), setOf(t, "a", "xb")
	s := mixed("abcx", 50)
	for _, skip := range []bool{true, false} {
		l, m := leap.New(x, skip), leap.New(other, !skip)
		want := through(t, l, l.Keep(), []string{s})
		a, b := carryOf(t, 3), carryOf(t, 9)
		var ra, rb []api.Record
		atA, atB := 0, 0
		for i := range s {
			a.Add(s[i : i+1])
			b.Add(s[i : i+1])
			m.Run(carryOf(t, 2, s), i)
			m.Next(carryOf(t, 2, s), i)
			rs, to := l.Run(a, atA)
			ra, atA = append(ra, rs...), to
			if i%3 == 0 {
				rs, to = l.Run(b, atB)
				rb, atB = append(rb, rs...), to
			}
		}
		for range 3 {
			r, ok := l.Last(a, atA)
			if got := append(slices.Clip(ra), r); ok && !same(got, want) || !ok && !same(ra, want) {
				t.Errorf("skipping %v: %v, and %+v, %v; want %v", skip, ra, r, ok, want)
			}
		}
		rs, to := l.Run(b, atB)
		if to != atA || !same(append(rb, rs...), ra) {
			t.Errorf("skipping %v, of another carry: %v, and %v; want %v", skip, rb, rs, ra)
		}
	}
}
