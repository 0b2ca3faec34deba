package scan_test

import (
	"fmt"
	"math"
	"runtime"
	"slices"
	"strings"
	"testing"
	"time"
	"unsafe"
	"weak"

	"jurat/api"
	"jurat/book"
	"jurat/carry"
	"jurat/head"
	"jurat/leap"
	"jurat/lens"
	"jurat/occ"
	"jurat/pats"
	"jurat/pen"
	"jurat/probe"
	"jurat/scan"
	"jurat/walk"
)

// most is the greatest offset, 2^62 - 1, as chapter 3 writes it.
const most = 1<<62 - 1

// texts is all texts of at most so many bytes out of some, the shortest first.
func texts(some string, most int) []string {
	l := []string{""}
	for i := 0; i < len(l); i++ {
		if len(l[i]) == most {
			continue
		}
		for k := range len(some) {
			l = append(l, l[i]+some[k:k+1])
		}
	}
	return l
}

// subsets calls f with each list of some texts that has one at least, each at most once.
func subsets(some []string, f func([]string)) {
	for bits := 1; bits < 1<<len(some); bits++ {
		var l []string
		for i, s := range some {
			if bits>>i&1 == 1 {
				l = append(l, s)
			}
		}
		f(l)
	}
}

// partings calls f with each way to part a text into parts that are not empty.
func partings(s string, f func([]string)) {
	for cuts := range 1 << max(len(s)-1, 0) {
		var l []string
		from := 0
		for to := 1; to <= len(s); to++ {
			if to == len(s) || cuts>>(to-1)&1 == 1 {
				l = append(l, s[from:to])
				from = to
			}
		}
		f(l)
	}
}

// even is a text in parts of one size, but for the last one.
func even(s string, size int) []string {
	var l []string
	for len(s) > size {
		l = append(l, s[:size])
		s = s[size:]
	}
	return append(l, s)
}

// mixed is a text of some bytes, in which they stand mixed.
func mixed(some string, size int) string {
	b, n := []byte{}, uint32(size)
	for range size {
		n = n*1664525 + 1013904223
		b = append(b, some[int(n>>16)%len(some)])
	}
	return string(b)
}

// all is all bytes, from the least one on.
func all() string {
	var b []byte
	for c := range 256 {
		b = append(b, byte(c))
	}
	return string(b)
}

// short is how anything looks, as far as it is short.
func short(v any) string {
	s := fmt.Sprintf("%+v", v)
	return s[:min(len(s), 300)]
}

// setOf is the set of texts that are one.
func setOf(t *testing.T, l ...string) *pats.Set {
	t.Helper()
	x, e := pats.New(l)
	if x == nil || e != api.OK {
		t.Fatalf("pats.New of %d texts %.40q: %v; want a set", len(l), l[:min(len(l), 9)], e)
	}
	return x
}

// config is a config, skipping or not.
func config(table int, skip bool, every int) api.Config {
	return api.Config{Table: table, Skip: skip, Every: every}
}

// The answers as the chapters word them.

// number is a number's bytes, lowest digit first, a power of 128 each.
func number(n int) string {
	if n < 128 {
		return string([]byte{byte(n)})
	}
	return string([]byte{byte(n%128 + 128)}) + number(n/128)
}

// headOf is a file's head.
func headOf(file string) string {
	return "cert\x01\x01" + number(len(file)) + file
}

// bytesOf is the bytes of a record.
func bytesOf(r api.Record) string {
	s := string([]byte{byte(r.Kind)})
	if r.Kind != 4 {
		return s + number(r.N) + number(r.R)
	}
	var b strings.Builder
	b.WriteString(s + number(len(r.Ids)))
	for i, id := range r.Ids {
		if i > 0 {
			id -= r.Ids[i-1]
		}
		b.WriteString(number(id))
	}
	return b.String()
}

// covers is how many ends a record covers once.
func covers(r api.Record) int {
	switch r.Kind {
	case 1, 2:
		return r.N
	case 3, 4:
		return 1
	}
	return 0
}

// evidence is that of a whole stream, one by one: of each end that is not covered what a probe tells of all bytes up to it, the last one cut to as many ends as are left.
func evidence(x *pats.Set, s string, skip bool) []api.Record {
	p := probe.New(x)
	var l []api.Record
	for at := 0; at < len(s); {
		r := p.Of(s[max(0, at+1-max(x.Most(), 2)):at+1], at+1, skip)
		if r.Kind <= 2 {
			r.N = min(r.N, len(s)-at)
		}
		l = append(l, r)
		at += covers(r)
	}
	return l
}

// recordsOf is the records of a stream: Checks behind its evidence, where they are due, and an End.
func recordsOf(l []api.Record, every int) []api.Record {
	var out []api.Record
	at, named, due := 0, 0, every
	for _, r := range l {
		out = append(out, r)
		at += covers(r)
		named += len(r.Ids)
		if at >= due {
			out = append(out, api.Record{Kind: 5, N: at, R: named})
			// Every may be so great that the sum is more than any stream has.
			due = min(most, at) + every
		}
	}
	return append(out, api.Record{Kind: 6, N: at, R: named})
}

// together is records, each put together with the last one of those ahead of it, where that can be.
func together(l []api.Record) []api.Record {
	var out []api.Record
	for _, r := range l {
		if n := len(out); n > 0 && r.Kind <= 3 && out[n-1].Kind == r.Kind && out[n-1].N == r.N {
			out[n-1].R += r.R
			continue
		}
		out = append(out, r)
	}
	return out
}

// certOf is the certificate of a set and of records.
func certOf(x *pats.Set, l []api.Record) string {
	var b strings.Builder
	b.WriteString(headOf(book.Put(x)))
	for _, r := range together(l) {
		b.WriteString(bytesOf(r))
	}
	return b.String()
}

// hitsOf is the hits of patterns, which are in order, in a text.
func hitsOf(l []string, s string) []api.Hit {
	var hl []api.Hit
	for end := range len(s) + 1 {
		for id, p := range l {
			if strings.HasSuffix(s[:end], p) {
				hl = append(hl, api.Hit{End: end, Id: id})
			}
		}
	}
	return hl
}

// job is a set, a config, and a stream, and what is to be told of them.
type job struct {
	x      *pats.Set
	cfg    api.Config
	stream string
	hits   []api.Hit
	cert   string
}

// jobOf is a job, with its evidence and its hits.
func jobOf(x *pats.Set, cfg api.Config, s string, l []api.Record, hl []api.Hit) job {
	return job{x, cfg, s, hl, certOf(x, recordsOf(l, cfg.Every))}
}

// newJob is a job of short patterns and a short stream.
func newJob(x *pats.Set, cfg api.Config, s string) job {
	return jobOf(x, cfg, s, evidence(x, s, cfg.Skip), hitsOf(x.List(), s))
}

// scanner is one to which no bytes came, and how its certificate begins.
func (j job) scanner(t *testing.T) (*scan.Scanner, string) {
	t.Helper()
	s, top, e := scan.New(j.x, j.cfg)
	if s == nil || e != api.OK {
		t.Fatalf("New(…, %+v): %p, %d bytes, %v; want a scanner", j.cfg, s, len(top), e)
	}
	if want := headOf(book.Put(j.x)); top != want {
		t.Fatalf("New(…, %+v): %.80x; want %.80x", j.cfg, top, want)
	}
	checkTold(t, s, 0, 0)
	return s, top
}

// checkTold asks for how many hits were told, how many bytes are kept, and whether the walk agrees.
func checkTold(t *testing.T, s *scan.Scanner, hits, held int) {
	t.Helper()
	if n := s.Hits(); n != hits {
		t.Errorf("Hits(): %d; want %d", n, hits)
	}
	if n := s.Held(); n != held {
		t.Errorf("Held(): %d; want %d", n, held)
	}
	if !s.Agrees() {
		t.Error("Agrees(): false; want true")
	}
}

// checkFeed asks for the hits of a part, and for bytes with which the certificate goes on behind those that were told; it tells how many were told then.
func checkFeed(t *testing.T, s *scan.Scanner, part string, want []api.Hit, cert string, told int) int {
	t.Helper()
	l, text, e := s.Feed(part)
	if !slices.Equal(l, want) || e != api.OK {
		t.Errorf("Feed(%.40q): %d hits %s, %v; want %d hits %s, %v", part, len(l), short(l), e, len(want), short(want), api.OK)
	}
	if !strings.HasPrefix(cert[told:], text) {
		t.Errorf("Feed(%.40q): %.80x; the certificate goes on %.80x", part, text, cert[told:])
		return told
	}
	return told + len(text)
}

func checkClose(t *testing.T, s *scan.Scanner, want string) {
	t.Helper()
	if text, e := s.Close(); text != want || e != api.OK {
		t.Errorf("Close(): %d bytes %.80x, %v; want %d bytes %.80x, %v", len(text), text, e, len(want), want, api.OK)
	}
}

// checkRefused asks that a part, and what comes at last, are refused with an error.
func checkRefused(t *testing.T, s *scan.Scanner, part string, want api.Errno) {
	t.Helper()
	if l, text, e := s.Feed(part); len(l) > 0 || text != "" || e != want {
		t.Errorf("Feed(%.40q): %s, %.40x, %v; want none, nothing, %v", part, short(l), text, e, want)
	}
	if text, e := s.Close(); text != "" || e != want {
		t.Errorf("Close(): %.40x, %v; want nothing, %v", text, e, want)
	}
}

// mirror is how many bytes a loop keeps of the parts that came.
type mirror struct {
	loop *leap.Loop
	k    *carry.Carry
	at   int
}

func newMirror(t *testing.T, x *pats.Set, skip bool) *mirror {
	t.Helper()
	l := leap.New(x, skip)
	k, e := carry.New(l.Keep())
	if e != api.OK {
		t.Fatal(e)
	}
	return &mirror{loop: l, k: k}
}

// held lets a part come.
func (m *mirror) held(part string) int {
	m.k.Add(part)
	_, m.at = m.loop.Run(m.k, m.at)
	return m.k.Held()
}

// check scans the job's stream in parts, and asks for all that is told with each, and at last.
func (j job) check(t *testing.T, parts []string) {
	t.Helper()
	s, top := j.scanner(t)
	m := newMirror(t, j.x, j.cfg.Skip)
	told, seen, from := len(top), 0, 0
	for _, part := range parts {
		seen += len(part)
		to := from
		for to < len(j.hits) && j.hits[to].End <= seen {
			to++
		}
		told = checkFeed(t, s, part, j.hits[from:to], j.cert, told)
		checkTold(t, s, to, m.held(part))
		if bound := j.x.Most() + j.x.Least() + len(part) + 2; s.Held() > bound {
			t.Errorf("behind %.40q: %d bytes are kept; want %d at most", part, s.Held(), bound)
		}
		from = to
	}
	checkClose(t, s, j.cert[told:])
	checkTold(t, s, len(j.hits), 0)
	for range 2 {
		checkRefused(t, s, "ab", api.ErrState)
		checkRefused(t, s, "", api.ErrState)
		checkTold(t, s, len(j.hits), 0)
	}
	j.checkAll(t, parts)
	if t.Failed() {
		t.Fatalf("of the patterns %.60q, %+v, in %d parts %s", j.x.List(), j.cfg, len(parts), short(parts))
	}
}

// checkAll asks for the same at once.
func (j job) checkAll(t *testing.T, parts []string) {
	t.Helper()
	l, cert, e := scan.All(j.x, j.cfg, parts)
	if !slices.Equal(l, j.hits) || cert != j.cert || e != api.OK {
		t.Errorf("All: %d hits %s, %d bytes %.80x, %v; want %d hits %s, %d bytes %.80x, %v", len(l), short(l), len(cert), cert, e, len(j.hits), short(j.hits), len(j.cert), j.cert, api.OK)
	}
}

// 32.1, 32.2: the chapter's example, as it stands there.
func TestExample(t *testing.T) {
	x := setOf(t, "abc", "bc")
	const top = "cert\x01\x01\x10jurat\x01\x02\x00\x03abc\x00\x02bc"
	const records = "\x01\x02\x01\x01\x01\x01\x05\x03\x00\x04\x02\x00\x01\x01\x01\x01\x06\x05\x02"
	want := []api.Hit{{End: 4, Id: 0}, {End: 4, Id: 1}}
	for table := 1; table <= 3; table++ {
		cfg := config(table, true, 3)
		l, cert, e := scan.All(x, cfg, []string{"xabcx"})
		if !slices.Equal(l, want) || cert != top+records || e != api.OK {
			t.Errorf("All(…, %+v, xabcx): %v, %x, %v; want %v, %x", cfg, l, cert, e, want, top+records)
		}
		s, text, e := scan.New(x, cfg)
		if s == nil || text != top || e != api.OK {
			t.Fatalf("New(…, %+v): %p, %x, %v; want a scanner, %x", cfg, s, text, e, top)
		}
		checkTold(t, s, 0, 0)
		told := checkFeed(t, s, "xab", nil, records, 0)
		checkTold(t, s, 0, 3)
		told = checkFeed(t, s, "", nil, records, told)
		told = checkFeed(t, s, "c", want, records, told)
		checkTold(t, s, 2, 3)
		told = checkFeed(t, s, "x", nil, records, told)
		checkTold(t, s, 2, 4)
		checkClose(t, s, records[told:])
		checkTold(t, s, 2, 0)
		checkRefused(t, s, "abc", api.ErrState)
	}
}

// 32.1: the same without skips: each end by itself, Checks behind the third one each.
func TestStep(t *testing.T) {
	const records = "\x03\x01\x03\x05\x03\x00\x04\x02\x00\x01\x03\x01\x01\x06\x05\x02"
	j := job{setOf(t, "abc", "bc"), config(1, false, 3), "xabcx", []api.Hit{{End: 4, Id: 0}, {End: 4, Id: 1}}, "cert\x01\x01\x10jurat\x01\x02\x00\x03abc\x00\x02bc" + records}
	partings(j.stream, func(parts []string) { j.check(t, parts) })
}

// 32.1: by which configs one may scan.
func TestCheck(t *testing.T) {
	x := setOf(t, "abc", "bc")
	for _, table := range []int{math.MinInt, -1 << 32, 1 - 1<<32, -3, -2, -1, 0, 1, 2, 3, 4, 5, 6, 255, 1<<8 + 1, 1<<16 + 2, 1<<32 + 3, 1 << 62, math.MaxInt} {
		for _, every := range []int{math.MinInt, -most, 1 - 1<<32, -2, -1, 0, 1, 2, 3, 1 << 31, 1 << 32, most - 1, most, most + 1, math.MaxInt} {
			for _, skip := range []bool{true, false} {
				cfg := config(table, skip, every)
				want := table >= 1 && table <= 3 && every >= 1 && every <= most
				if ok := scan.Check(cfg); ok != want {
					t.Errorf("Check(%+v): %v; want %v", cfg, ok, want)
				}
				if want {
					newJob(x, cfg, "abc").check(t, []string{"abc"})
					continue
				}
				checkNone(t, x, cfg)
			}
		}
	}
}

// checkNone asks that there is no scanner of a set by a config.
func checkNone(t *testing.T, x *pats.Set, cfg api.Config) {
	t.Helper()
	if s, top, e := scan.New(x, cfg); s != nil || top != "" || e != api.ErrArg {
		t.Errorf("New(%p, %+v): %p, %.40x, %v; want nil, nothing, %v", x, cfg, s, top, e, api.ErrArg)
	}
	for _, parts := range [][]string{nil, {""}, {"abc", "x"}} {
		if l, cert, e := scan.All(x, cfg, parts); len(l) > 0 || cert != "" || e != api.ErrArg {
			t.Errorf("All(%p, %+v, %q): %v, %.40x, %v; want none, nothing, %v", x, cfg, parts, l, cert, e, api.ErrArg)
		}
	}
}

// 32.1, 32.2: a nil set, whatever the config is.
func TestNilSet(t *testing.T) {
	for table := range 5 {
		for _, every := range []int{-1, 0, 1, 9, most, most + 1} {
			checkNone(t, nil, config(table, true, every))
			checkNone(t, nil, config(table, false, every))
		}
	}
}

// 32.1, 32.2: a nil scanner.
func TestNil(t *testing.T) {
	var s *scan.Scanner
	for range 2 {
		checkRefused(t, s, "ab", api.ErrNil)
		checkRefused(t, s, "", api.ErrNil)
		checkRefused(t, s, huge(most+1), api.ErrNil)
		if s.Hits() != 0 || s.Held() != 0 || s.Agrees() {
			t.Errorf("Hits, Held, Agrees: %d, %d, %v; want 0, 0, false", s.Hits(), s.Held(), s.Agrees())
		}
	}
}

// huge is a text that says that it has so many bytes, which are not there: who is given it may ask how many they are, and no more.
func huge(n int) string {
	type text struct {
		first *byte
		size  int
	}
	return *(*string)(unsafe.Pointer(&text{new(byte), n}))
}

// 32.1: a stream that would be longer than any may be; what is refused changes nothing.
func TestOver(t *testing.T) {
	x := setOf(t, "abc", "bc")
	for _, q := range []struct{ parts, long []int }{
		{[]int{0}, []int{most + 1, most + 2, math.MaxInt}},
		{[]int{1}, []int{most, most + 1, math.MaxInt}},
		{[]int{2, 3}, []int{most - 4, most - 3, most, math.MaxInt}},
	} {
		j := newJob(x, config(2, true, 2), "xabcx")
		s, top := j.scanner(t)
		told, at := len(top), 0
		for _, n := range q.parts {
			told = checkFeed(t, s, j.stream[at:at+n], hitsBetween(j.hits, at, at+n), j.cert, told)
			at += n
		}
		hits, held := s.Hits(), s.Held()
		for _, n := range q.long {
			if l, text, e := s.Feed(huge(n)); len(l) > 0 || text != "" || e != api.ErrOver {
				t.Errorf("Feed of %d bytes, behind %d: %v, %x, %v; want none, nothing, %v", n, at, l, text, e, api.ErrOver)
			}
			checkTold(t, s, hits, held)
			if l, cert, e := scan.All(x, j.cfg, []string{j.stream[:at], huge(n), "abc"}); len(l) > 0 || cert != "" || e != api.ErrOver {
				t.Errorf("All, of %d bytes behind %d: %v, %x, %v; want none, nothing, %v", n, at, l, cert, e, api.ErrOver)
			}
		}
		told = checkFeed(t, s, j.stream[at:], hitsBetween(j.hits, at, len(j.stream)), j.cert, told)
		checkClose(t, s, j.cert[told:])
		checkRefused(t, s, huge(most+1), api.ErrState)
	}
}

// hitsBetween is those that end behind one end, up to another one.
func hitsBetween(l []api.Hit, from, to int) []api.Hit {
	var out []api.Hit
	for _, h := range l {
		if h.End > from && h.End <= to {
			out = append(out, h)
		}
	}
	return out
}

// sets is lists of patterns that clear ends in many ways, and bytes to make streams of.
func sets() []struct {
	some  []string
	bytes string
	most  int
} {
	return []struct {
		some  []string
		bytes string
		most  int
	}{
		{texts("ab", 2)[1:], "abx", 3},
		{[]string{"abc", "bc", "bca", "abca"}, "abcx", 4},
		{[]string{"aab", "abb", "bab", "baab", "bbab"}, "ab", 5},
		{[]string{"aaaa", "aaab", "abab", "bbbba"}, "abx", 4},
	}
}

// 32.1 to 32.3, T3: all short streams of short patterns, in all partings, the tables taking turns.
func TestPartings(t *testing.T) {
	turn := 0
	for _, q := range sets() {
		streams := append(texts(q.bytes, q.most), mixed(q.bytes, 6))
		subsets(q.some, func(l []string) {
			x := setOf(t, l...)
			for _, s := range streams {
				hl := hitsOf(x.List(), s)
				for _, skip := range []bool{true, false} {
					ev := evidence(x, s, skip)
					turn++
					j := jobOf(x, config(0, skip, turn%4+1), s, ev, hl)
					partings(s, func(parts []string) {
						turn++
						j.cfg.Table = turn%3 + 1
						j.check(t, parts)
					})
				}
			}
		})
	}
}

// 32.1, 32.3: all numbers of ends between Checks, and all tables.
func TestEvery(t *testing.T) {
	for _, l := range [][]string{{"abc", "bc"}, {"a"}, {"aaaa", "xbxbx"}, {"bcabx", "xabca"}, {"ab", "bab", "b"}} {
		x := setOf(t, l...)
		for _, s := range []string{"", "a", "x", "xabcx", "xxxxxxxxx", "aaaaaaaaa", mixed("abcx", 20), strings.Join(l, "x")} {
			hl := hitsOf(x.List(), s)
			for _, skip := range []bool{true, false} {
				ev := evidence(x, s, skip)
				for _, every := range []int{1, 2, 3, 4, 5, 6, 7, 8, 9, 10, 11, 19, 20, 21, 22, 99, most - 1, most} {
					for table := 1; table <= 3; table++ {
						j := jobOf(x, config(table, skip, every), s, ev, hl)
						j.check(t, []string{s})
						j.check(t, even(s, 1))
						j.check(t, []string{"", s[:len(s)/2], "", "", s[len(s)/2:], ""})
					}
				}
			}
		}
	}
}

// 32.1: where Checks stand, told record by record.
func TestChecks(t *testing.T) {
	skip := func(n, r int) api.Record { return api.Record{Kind: 1, N: n, R: r} }
	check := func(n, r int) api.Record { return api.Record{Kind: 5, N: n, R: r} }
	end := func(n, r int) api.Record { return api.Record{Kind: 6, N: n, R: r} }
	hits := func(ids ...int) api.Record { return api.Record{Kind: 4, Ids: ids} }
	five := []string{"abcde"}
	for _, q := range []struct {
		l     []string
		s     string
		every int
		want  []api.Record
	}{
		{five, "", 1, []api.Record{end(0, 0)}},
		{five, "x", 1, []api.Record{skip(1, 1), check(1, 0), end(1, 0)}},
		{five, "x", 2, []api.Record{skip(1, 1), end(1, 0)}},
		{five, "xxxxx", 5, []api.Record{skip(5, 1), check(5, 0), end(5, 0)}},
		{five, "xxxxx", 6, []api.Record{skip(5, 1), end(5, 0)}},
		{five, "xxxx", 5, []api.Record{skip(4, 1), end(4, 0)}},
		{five, "xxxxxxxxxxxx", 1, []api.Record{skip(5, 1), check(5, 0), skip(5, 1), check(10, 0), skip(2, 1), check(12, 0), end(12, 0)}},
		// The second one counts from 5 on, not from 4.
		{five, "xxxxxxxxxxxxxxxxxxxxx", 4, []api.Record{skip(5, 1), check(5, 0), skip(5, 1), check(10, 0), skip(5, 1), check(15, 0), skip(5, 1), check(20, 0), skip(1, 1), end(21, 0)}},
		{five, "xxxxxxxxxxxxxxxxxxxxx", 6, []api.Record{skip(5, 2), check(10, 0), skip(5, 2), check(20, 0), skip(1, 1), end(21, 0)}},
		{five, "xxxxxxxxxxxxxxxxxxxxx", 11, []api.Record{skip(5, 3), check(15, 0), skip(5, 1), skip(1, 1), end(21, 0)}},
		{five, "xxxxxxxxxxxxxxxxxxxxxxxxxx", 11, []api.Record{skip(5, 3), check(15, 0), skip(5, 2), skip(1, 1), check(26, 0), end(26, 0)}},
		{[]string{"a", "aa"}, "aaa", 1, []api.Record{hits(0), check(1, 1), hits(0, 1), check(2, 3), hits(0, 1), check(3, 5), end(3, 5)}},
		{[]string{"a", "aa"}, "aaa", 2, []api.Record{hits(0), hits(0, 1), check(2, 3), hits(0, 1), end(3, 5)}},
		{[]string{"a", "aa"}, "aaxa", 3, []api.Record{hits(0), hits(0, 1), skip(1, 1), check(3, 3), hits(0), end(4, 4)}},
	} {
		x := setOf(t, q.l...)
		j := job{x, config(3, true, q.every), q.s, hitsOf(x.List(), q.s), certOf(x, q.want)}
		for size := 1; size <= 7; size++ {
			j.check(t, even(q.s, size))
		}
		j.checkAll(t, []string{q.s})
	}
}

// 32.2: no parts, and empty ones.
func TestNoParts(t *testing.T) {
	for _, l := range [][]string{{"a"}, {"abc", "bc"}} {
		for table := 1; table <= 3; table++ {
			for _, skip := range []bool{true, false} {
				j := newJob(setOf(t, l...), config(table, skip, 1), "")
				if want := headOf(book.Put(j.x)) + "\x06\x00\x00"; j.cert != want {
					t.Fatalf("%x; want %x", j.cert, want)
				}
				for _, parts := range [][]string{nil, {}, {""}, {"", "", ""}} {
					j.check(t, parts)
				}
			}
		}
	}
}

// 32.1, 32.3: each byte is a pattern's last one, or one ahead of that, or none of a pattern's.
func TestEachByte(t *testing.T) {
	s := all()
	for c := range 256 {
		one, next, other := s[c:c+1], string([]byte{byte(c + 1)}), string([]byte{byte(c + 128)})
		stream := strings.Join([]string{one, next, other, one, one, next, next + one + next + other + one + next + one, other}, "")
		for i, l := range [][]string{{one}, {one, next + one}, {one + next + one, next + next}, {other + one + next}} {
			for _, skip := range []bool{true, false} {
				j := newJob(setOf(t, l...), config((c+i)%3+1, skip, c%9+1), stream)
				j.check(t, []string{stream})
				j.check(t, even(stream, 2))
			}
		}
	}
}

// 32.3, T3, T4: long streams in parts of many lengths.
func TestLongStreams(t *testing.T) {
	own := mixed(all(), 200)
	turn := 0
	for _, l := range [][]string{
		{"he", "hers", "his", "she", "hesh"},
		{"hershe", "isheers", "eeeeee", "sssssh", "hishis"},
		{own, own[100:] + own[:99], own[7:55], own[55:], mixed("hers", 50), mixed("heis", 70)},
		{"e", own[3:9], "hers"},
	} {
		x := setOf(t, l...)
		for _, s := range []string{own + own, strings.Join(l, "he"), mixed("hers", 1000), mixed("heis", 1000), mixed(all(), 1000)} {
			hl := occ.All(x, s)
			for _, skip := range []bool{true, false} {
				ev := evidence(x, s, skip)
				for _, size := range []int{1, 2, 3, 7, 64, 199, 200, 201, 999, 9999} {
					turn++
					jobOf(x, config(turn%3+1, skip, turn%50+1), s, ev, hl).check(t, even(s, size))
				}
			}
		}
	}
}

// 32.1, 32.3: parts that are longer than what is gone through at once, with hits, and ends that are cleared at once, where that ends.
func TestLongParts(t *testing.T) {
	const n = 1 << 16
	text := mixed("hersx", 3*n+9)
	for _, l := range [][]string{{"hers", "she", "xxxx"}, {text[n-9 : n+9], text[2*n-40 : 2*n], text[2*n : 2*n+50]}, {strings.Repeat("q", 999)}, {text[7 : n-10], "xh"}} {
		x := setOf(t, l...)
		for _, s := range []string{text, text[:n], text[:n+1]} {
			hl := occ.All(x, s)
			for _, skip := range []bool{true, false} {
				j := jobOf(x, config(2, skip, 1000), s, evidence(x, s, skip), hl)
				for _, size := range []int{n, n + 1, 4 * n} {
					j.check(t, even(s, size))
				}
			}
		}
	}
}

// 32.1: the longest pattern, there whole, and but for one byte.
func TestLongest(t *testing.T) {
	const n = api.MaxPattern
	same, other := strings.Repeat("a", n), mixed(all(), n)
	for _, q := range []struct {
		l       []string
		streams []string
	}{
		{[]string{same}, []string{same, same[1:], "b" + same + "a", same[:99] + "b" + same, strings.Repeat("x", 2*n+1)}},
		{[]string{same, same[1:] + "b"}, []string{same + "b", same[1:] + "bb", "a" + same}},
		{[]string{other, other[n-2:]}, []string{other, other[1:], other + other[1:] + other, other[:n/2] + other}},
	} {
		x := setOf(t, q.l...)
		for _, s := range q.streams {
			hl := occ.All(x, s)
			for _, skip := range []bool{true, false} {
				j := jobOf(x, config(3, skip, n), s, evidence(x, s, skip), hl)
				j.check(t, []string{s})
				j.check(t, even(s, 9999))
			}
		}
	}
}

// 32.1: the most patterns, and a pattern file that is as long as one of these.
func TestMostPatterns(t *testing.T) {
	var l []string
	for i := range api.MaxPatterns {
		l = append(l, string([]byte{byte(i >> 8), 'x', byte(i)}))
	}
	x := setOf(t, l...)
	s := strings.Join([]string{l[7], l[9999], "xx", l[65534], l[0], "x\x00x"}, "")
	for _, skip := range []bool{true, false} {
		j := jobOf(x, config(2, skip, 5), s, evidence(x, s, skip), occ.All(x, s))
		if len(j.hits) < 4 {
			t.Fatalf("%d hits; want four at least", len(j.hits))
		}
		j.check(t, even(s, 4))
	}
}

// 32.1: many hits of one end, in order.
func TestManyHits(t *testing.T) {
	var l []string
	for n := range 300 {
		l = append(l, strings.Repeat("a", n+1))
	}
	x := setOf(t, l...)
	s := strings.Repeat("a", 400) + "b" + strings.Repeat("a", 100)
	for _, skip := range []bool{true, false} {
		j := newJob(x, config(1, skip, 150), s)
		if len(j.hits) != 300*301/2+100*300+100*101/2 {
			t.Fatalf("%d hits", len(j.hits))
		}
		j.check(t, []string{s})
		j.check(t, even(s, 33))
	}
}

// T2: what is written is what a checker asks for, by the words of chapters 24, 37 and 38.

// back is the byte of a text at a distance from its end, if there is one.
func back(s string, d int) (byte, bool) {
	if d < 0 || d >= len(s) {
		return 0, false
	}
	return s[len(s)-1-d], true
}

// cleared is whether no pattern has these bytes, the last one first, at a distance below n, nor fewer than n bytes ahead of them.
func cleared(l []string, n int, bytes ...byte) bool {
	return !slices.ContainsFunc(l, func(p string) bool {
		if len(p) < n+len(bytes)-1 {
			return true
		}
		for d := range n {
			same := true
			for i, c := range bytes {
				b, ok := back(p, d+i)
				same = same && ok && b == c
			}
			if same {
				return true
			}
		}
		return false
	})
}

// refuted is whether a pattern can't end at the end of a stream, as it has more bytes, or at a distance another one.
func refuted(p, s string, d int) bool {
	if len(p) > len(s) {
		return true
	}
	c, ok := back(p, d)
	b, there := back(s, d)
	return ok && there && b != c
}

// ending is the numbers of the patterns, which are in order, that end at the end of a text.
func ending(l []string, s string) []int {
	var ids []int
	for id, p := range l {
		if strings.HasSuffix(s, p) {
			ids = append(ids, id)
		}
	}
	return ids
}

// holds is whether evidence holds at the end of a stream.
func holds(l []string, s string, r api.Record) bool {
	e := len(s)
	switch r.Kind {
	case api.Skip:
		return r.N >= 1 && cleared(l, r.N, s[e-1])
	case api.Leap:
		return e >= 2 && r.N >= 1 && cleared(l, r.N, s[e-1], s[e-2])
	case api.Miss:
		return r.N >= 1 && !slices.ContainsFunc(l, func(p string) bool {
			return p[len(p)-1] == s[e-1] && !refuted(p, s, r.N)
		})
	case api.At:
		return slices.Equal(r.Ids, ending(l, s))
	}
	return false
}

// judged is the hits that a certificate names of a stream, and what is wrong with it, or nothing.
func judged(x *pats.Set, s, cert string) ([]api.Hit, string) {
	file, size, e := head.Take(cert)
	if e != api.OK || file != book.Put(x) {
		return nil, "its head"
	}
	records, e := lens.All(cert[size:])
	if e != api.OK {
		return nil, "its records: " + e.Error()
	}
	l, at := x.List(), 0
	var hl []api.Hit
	for _, r := range records {
		if r.Kind >= api.Check {
			if r.N != at || r.R != len(hl) {
				return nil, fmt.Sprintf("%+v, at %d, behind %d hits", r, at, len(hl))
			}
			continue
		}
		for range max(r.R, 1) {
			if at >= len(s) || !holds(l, s[:at+1], r) {
				return nil, fmt.Sprintf("%+v, at %d", r, at)
			}
			at += covers(r)
			for _, id := range r.Ids {
				hl = append(hl, api.Hit{End: at, Id: id})
			}
		}
	}
	if at != len(s) {
		return nil, fmt.Sprintf("its end: %d", at)
	}
	return hl, ""
}

// 32.3, T2, T4: whatever is scanned, all evidence holds, each end is covered once, and what is named is what was told, and what stands there; skipping or not.
func TestTrue(t *testing.T) {
	turn := 0
	checkTrue := func(l []string, s string) {
		x := setOf(t, l...)
		want := hitsOf(x.List(), s)
		for _, skip := range []bool{true, false} {
			turn++
			cfg := config(turn%3+1, skip, turn%11+1)
			hl, cert, e := scan.All(x, cfg, even(s, turn%5+1))
			if !slices.Equal(hl, want) || e != api.OK {
				t.Fatalf("of %q, %+v, in %q: %v, %v; want %v", l, cfg, s, hl, e, want)
			}
			named, wrong := judged(x, s, cert)
			if !slices.Equal(named, want) || wrong != "" {
				t.Fatalf("of %q, %+v, in %q: the certificate names %v; wrong is %q; want %v", l, cfg, s, named, wrong, want)
			}
		}
	}
	for _, q := range sets() {
		streams := append(texts(q.bytes, q.most), mixed(q.bytes, 40))
		subsets(q.some, func(l []string) {
			for _, s := range streams {
				checkTrue(l, s)
			}
		})
	}
	for n := range 60 {
		l := []string{mixed("abc", n+1), mixed("bca", n/2+1) + "a", mixed("cab", n/3+1) + "b"}
		slices.Sort(l)
		checkTrue(slices.Compact(l), mixed("abc", 200)+strings.Join(l, "c")+"bb")
	}
}

// 32.1, T7: what is told may wait for one record that the next one may be put together with, and for no more.
func TestWritten(t *testing.T) {
	x := setOf(t, "abc", "bc")
	for _, skip := range []bool{true, false} {
		j := newJob(x, config(1, skip, 9), mixed("abcx", 500))
		s, top := j.scanner(t)
		told := len(top)
		for i := range j.stream {
			told = checkFeed(t, s, j.stream[i:i+1], hitsBetween(j.hits, i, i+1), j.cert, told)
			// What is due so far, of the evidence of which all ends came; that of the last ones may have been cut.
			if i+1 == len(j.stream) {
				break
			}
			if due := len(certOf(x, dueOf(x, j, i+1))); told < due {
				t.Fatalf("behind %d bytes: %d of the certificate; want %d at least", i+1, told, due)
			}
		}
		checkClose(t, s, j.cert[told:])
	}
}

// dueOf is the records of a job that are finished as soon as so many bytes came: all whose ends are there, but for the last one, with those that it is put together with.
func dueOf(x *pats.Set, j job, seen int) []api.Record {
	at := 0
	var out []api.Record
	for _, r := range recordsOf(evidence(x, j.stream, j.cfg.Skip), j.cfg.Every) {
		at += covers(r)
		if at > seen || r.Kind == api.End {
			break
		}
		out = append(out, r)
	}
	out = together(out)
	return out[:max(len(out)-1, 0)]
}

// inUse is how much memory is in use.
func inUse() int {
	var m runtime.MemStats
	for range 3 {
		runtime.GC()
	}
	runtime.ReadMemStats(&m)
	return int(m.HeapAlloc)
}

// T7: no more memory is in use, the longer the stream is.
func TestLittle(t *testing.T) {
	for _, l := range [][]string{{"hers", "she"}, {mixed("hers", 70), "hersshe"}, {strings.Repeat("he", 400), strings.Repeat("s", 500)}} {
		x := setOf(t, l...)
		for _, skip := range []bool{true, false} {
			s, _, e := scan.New(x, config(2, skip, 7))
			if e != api.OK {
				t.Fatal(e)
			}
			first := 0
			for i := range 200 {
				part := mixed("hers?", i*37%400+1)
				if _, _, e := s.Feed(part); e != api.OK {
					t.Fatal(e)
				}
				if n := x.Most() + x.Least() + len(part) + 2; s.Held() > n {
					t.Fatalf("of %.40q, behind a part of %d bytes: %d are kept; want %d at most", l, len(part), s.Held(), n)
				}
				if i == 99 {
					first = inUse()
				}
			}
			if more := inUse() - first; more > 1<<16 {
				t.Errorf("of %.40q: behind twice as many parts %d bytes more are in use", l, more)
			}
			runtime.KeepAlive(s)
		}
	}
}

// T7: a scanner that is closed keeps nothing of its set, nor of the stream.
func TestLittleClosed(t *testing.T) {
	before := inUse()
	func() {
		s, _, e := scan.New(setOf(t, mixed(all(), 9999)), config(1, true, 7))
		if e != api.OK {
			t.Fatal(e)
		}
		if _, _, e := s.Feed(mixed(all(), 1<<20)); e != api.OK {
			t.Fatal(e)
		}
		if _, e := s.Close(); e != api.OK {
			t.Fatal(e)
		}
		if more := inUse() - before; more > 1<<16 {
			t.Errorf("%d bytes more are in use", more)
		}
		runtime.KeepAlive(s)
	}()
}

// freed is whether memory is given up, as far as that is to be seen.
func freed[T any](p weak.Pointer[T]) bool {
	for range 5 {
		runtime.GC()
	}
	return p.Value() == nil
}

// R4: neither a scanner nor what it tells keeps a part.
func TestKept(t *testing.T) {
	for _, skip := range []bool{true, false} {
		s, _, e := scan.New(setOf(t, "he", "she"), config(1, skip, 7))
		if e != api.OK {
			t.Fatal(e)
		}
		b := []byte(strings.Repeat("xshe", 999))
		whole := weak.Make(&b[0])
		l, text, e := s.Feed(unsafe.String(&b[0], len(b)))
		if len(l) != 2*999 || text == "" || e != api.OK {
			t.Errorf("Feed: %d hits, %d bytes, %v; want %d, some", len(l), len(text), e, 2*999)
		}
		b = nil
		if !freed(whole) {
			t.Error("the bytes that came are kept")
		}
		runtime.KeepAlive(s)
		runtime.KeepAlive(text)
		runtime.KeepAlive(l)
	}
}

// R4: nothing of what is told shares memory with what is told later, nor is what is handed in changed; a part may be written over behind its call.
func TestApart(t *testing.T) {
	x := setOf(t, "a", "aa", "ba", "b")
	for _, skip := range []bool{true, false} {
		j := newJob(x, config(3, skip, 4), mixed("ab", 60))
		s, top := j.scanner(t)
		cert, at := strings.Clone(top), 0
		room := make([]byte, 7)
		for at < len(j.stream) {
			n := copy(room, j.stream[at:])
			l, text, e := s.Feed(unsafe.String(&room[0], n))
			if want := hitsBetween(j.hits, at, at+n); !slices.Equal(l, want) || e != api.OK || string(room[:n]) != j.stream[at:at+n] {
				t.Errorf("Feed: %v, %v; want %v", l, e, want)
			}
			at += n
			cert += text
			l = l[:cap(l)]
			for i := range l {
				l[i] = api.Hit{End: -7, Id: -7}
			}
			clear(room)
		}
		text, e := s.Close()
		if cert+text != j.cert || e != api.OK {
			t.Errorf("%x, %v; want %x", cert+text, e, j.cert)
		}
		parts := []string{j.stream[:9], "", j.stream[9:], "behind"}
		l, _, _ := scan.All(x, j.cfg, parts[:3])
		l = l[:cap(l)]
		for i := range l {
			l[i] = api.Hit{}
		}
		j.checkAll(t, parts[:3])
		if !slices.Equal(parts, []string{j.stream[:9], "", j.stream[9:], "behind"}) {
			t.Errorf("the parts are %q; want them as they were", parts)
		}
	}
	if want := []string{"a", "aa", "b", "ba"}; !slices.Equal(x.List(), want) {
		t.Errorf("the set is %q; want it as it was", x.List())
	}
}

// R5: the same again; scanners know nothing of each other, also those of one set.
func TestAgain(t *testing.T) {
	x := setOf(t, "abc", "bc", "aab")
	for _, skip := range []bool{true, false} {
		j := newJob(x, config(1, skip, 6), mixed("abcx", 90))
		k := newJob(x, config(2, !skip, 3), mixed("abc", 90))
		a, top := j.scanner(t)
		b, _ := k.scanner(t)
		toldA, toldB := len(top), len(top)
		for i := range 90 {
			toldA = checkFeed(t, a, j.stream[i:i+1], hitsBetween(j.hits, i, i+1), j.cert, toldA)
			toldB = checkFeed(t, b, k.stream[i:i+1], hitsBetween(k.hits, i, i+1), k.cert, toldB)
			if i%30 == 0 {
				j.check(t, even(j.stream, i+1))
			}
		}
		checkClose(t, a, j.cert[toldA:])
		checkClose(t, b, k.cert[toldB:])
	}
}

// 32.1: the certificate is what a pen writes of the same records.
func TestPen(t *testing.T) {
	x := setOf(t, "abc", "bca", "ca")
	for _, skip := range []bool{true, false} {
		for every := 1; every < 30; every++ {
			j := newJob(x, config(every%3+1, skip, every), mixed("abcx", 300))
			want, e := pen.Whole(book.Put(x), recordsOf(evidence(x, j.stream, skip), every))
			if e != api.OK || want != j.cert {
				t.Fatalf("pen.Whole: %.80x, %v; want %.80x", want, e, j.cert)
			}
			j.check(t, even(j.stream, every))
		}
	}
}

// 32.2: the walk goes by the config's table, which is to be seen by how much memory that takes.
func TestTable(t *testing.T) {
	x := setOf(t, mixed(all(), 9999), mixed(all(), 3000))
	var rest []int
	for table := 1; table <= 3; table++ {
		before := inUse()
		w, _ := walk.New(x, table)
		alone := inUse() - before
		s, _, _ := scan.New(x, config(table, true, 1))
		rest = append(rest, inUse()-before-2*alone)
		runtime.KeepAlive(s)
		runtime.KeepAlive(w)
	}
	if slices.Max(rest)-slices.Min(rest) > 1<<16 {
		t.Errorf("beside what walks by the tables take, scanners take %v bytes", rest)
	}
}

// greatest is how much memory is in use at most while f goes on, as far as that is seen by looking again and again.
func greatest(f func()) int {
	done, most := make(chan struct{}), make(chan int)
	go func() {
		top := 0
		for {
			var m runtime.MemStats
			runtime.ReadMemStats(&m)
			top = max(top, int(m.HeapAlloc))
			select {
			case <-done:
				most <- top
				return
			case <-time.After(time.Millisecond):
			}
		}
	}()
	f()
	close(done)
	return <-most
}

// T7: of a long part the records of all ends do not stand beside one another, which would be 56 bytes an end.
func TestLongPart(t *testing.T) {
	const n = 1 << 22
	x, part := setOf(t, "hers", "rex"), mixed("hersx", n)
	for _, skip := range []bool{true, false} {
		s, _, e := scan.New(x, config(3, skip, 99))
		if e != api.OK {
			t.Fatal(e)
		}
		before := inUse()
		if more := greatest(func() { s.Feed(part) }) - before; more > 24*n {
			t.Errorf("skipping %v: of a part of %d bytes, %d more were in use", skip, n, more)
		}
	}
}
