package pen_test

import (
	"fmt"
	"math"
	"runtime"
	"slices"
	"strings"
	"testing"
	"unsafe"
	"weak"

	"jurat/api"
	"jurat/book"
	"jurat/carry"
	"jurat/head"
	"jurat/leap"
	"jurat/merge"
	"jurat/occ"
	"jurat/pats"
	"jurat/pen"
	"jurat/record"
)

const (
	// most is the greatest offset, 2^62 - 1, as chapter 3 writes it.
	most = 1<<62 - 1
	// lastId is the greatest Id that may be written.
	lastId = 65534
	// mostFile is how many bytes a file has at most, 2^26.
	mostFile = 1 << 26
)

func skip(n, r int) api.Record          { return api.Record{Kind: 1, N: n, R: r} }
func jump(n, r int) api.Record          { return api.Record{Kind: 2, N: n, R: r} }
func miss(n, r int) api.Record          { return api.Record{Kind: 3, N: n, R: r} }
func hits(ids ...int) api.Record        { return api.Record{Kind: 4, Ids: ids} }
func check(n, r int) api.Record         { return api.Record{Kind: 5, N: n, R: r} }
func end(n, r int) api.Record           { return api.Record{Kind: 6, N: n, R: r} }
func list(l ...api.Record) []api.Record { return l }

// with is a record with other Ids.
func with(r api.Record, ids ...int) api.Record {
	r.Ids = ids
	return r
}

// rising is so many Ids, from one on.
func rising(from, many int) []int {
	var l []int
	for id := range many {
		l = append(l, from+id)
	}
	return l
}

// body is a text of so many bytes, of which no two neighbours are alike.
func body(n int) string {
	return strings.Repeat("abc", n/3+1)[:n]
}

// short is how anything looks, as far as it is short.
func short(v any) string {
	s := fmt.Sprintf("%+v", v)
	return s[:min(len(s), 300)]
}

// sameRecord is whether two records are, of which lists nil and empty ones are the same.
func sameRecord(a, b api.Record) bool {
	return a.Kind == b.Kind && a.N == b.N && a.R == b.R && slices.Equal(a.Ids, b.Ids)
}

// number is a number's bytes, lowest digit first, a power of 128 each.
func number(n uint64) string {
	if n < 128 {
		return string([]byte{byte(n)})
	}
	return string([]byte{byte(n%128 + 128)}) + number(n/128)
}

// The answers as the chapters word them.

// headOf is a file's head.
func headOf(file string) string {
	return "cert\x01\x01" + number(uint64(len(file))) + file
}

// may is whether a record may be written.
func may(r api.Record) bool {
	least := 1
	switch r.Kind {
	case 1, 2, 3:
	case 4:
		for i, id := range r.Ids {
			if id < 0 || id > lastId || i > 0 && r.Ids[i-1] >= id {
				return false
			}
		}
		return r.N == 0 && r.R == 0
	case 5, 6:
		least = 0
	default:
		return false
	}
	return r.N >= least && r.N <= most && r.R >= least && r.R <= most && len(r.Ids) == 0
}

// bytesOf is the bytes of a record that may be written.
func bytesOf(r api.Record) string {
	s := string([]byte{byte(r.Kind)})
	if r.Kind != 4 {
		return s + number(uint64(r.N)) + number(uint64(r.R))
	}
	var b strings.Builder
	b.WriteString(s + number(uint64(len(r.Ids))))
	for i, id := range r.Ids {
		if i > 0 {
			id -= r.Ids[i-1]
		}
		b.WriteString(number(uint64(id)))
	}
	return b.String()
}

// together is records that may be written, each put together with the last one of those ahead of it, where that can be.
func together(l []api.Record) []api.Record {
	var out []api.Record
	for _, r := range l {
		if n := len(out); n > 0 && r.Kind <= 3 && out[n-1].Kind == r.Kind && out[n-1].N == r.N && uint64(out[n-1].R)+uint64(r.R) <= most {
			out[n-1].R += r.R
			continue
		}
		out = append(out, r)
	}
	return out
}

// told is the bytes that are told by the time that these records came.
func told(came []api.Record) string {
	l := together(came)
	if n := len(came); n > 0 && came[n-1].Kind != 6 {
		l = l[:len(l)-1]
	}
	s := ""
	for _, r := range l {
		s += bytesOf(r)
	}
	return s
}

// fault is the error of a record that comes behind others.
func fault(came []api.Record, r api.Record) api.Errno {
	n := len(came)
	switch {
	case n > 0 && came[n-1].Kind == 6:
		return api.ErrState
	case !may(r):
		return api.ErrArg
	case r.Kind == 5 && (n == 0 || came[n-1].Kind == 5):
		return api.ErrOrder
	}
	return api.OK
}

// wantWhole is the certificate of a file that is not too long, and of records.
func wantWhole(file string, l []api.Record) (string, api.Errno) {
	for i, r := range l {
		if e := fault(l[:i], r); e != api.OK {
			return "", e
		}
	}
	if n := len(l); n == 0 || l[n-1].Kind != 6 {
		return "", api.ErrEnd
	}
	return headOf(file) + told(l), api.OK
}

func newPen(t *testing.T, file string) *pen.Pen {
	t.Helper()
	p, s, e := pen.New(file)
	if p == nil || s != headOf(file) || e != api.OK {
		t.Fatalf("New(%d bytes): %p, %d bytes %.40x, %v; want a pen, %.40x", len(file), p, len(s), s, e, headOf(file))
	}
	return p
}

func checkAdd(t *testing.T, p *pen.Pen, r api.Record, want string, we api.Errno) {
	t.Helper()
	if s, e := p.Add(r); s != want || e != we {
		t.Errorf("Add(%s): %.40x, %v; want %.40x, %v", short(r), s, e, want, we)
	}
}

func checkEnded(t *testing.T, p *pen.Pen, want bool) {
	t.Helper()
	if p.Ended() != want {
		t.Errorf("Ended(): %v; want %v", !want, want)
	}
}

func checkWhole(t *testing.T, file string, l []api.Record, want string, we api.Errno) {
	t.Helper()
	if s, e := pen.Whole(file, l); s != want || e != we {
		t.Errorf("Whole(%d bytes, %d records %s): %d bytes %.80x, %v; want %d bytes %.80x, %v", len(file), len(l), short(l), len(s), s, e, len(want), want, we)
	}
}

// checkCert asks for the certificate of records, as the chapter words it.
func checkCert(t *testing.T, file string, l []api.Record) {
	t.Helper()
	want, e := wantWhole(file, l)
	checkWhole(t, file, l, want, e)
}

// checkComing lets records come to a pen, one by one, also such as may not come now, and asks for the whole of them.
func checkComing(t *testing.T, l []api.Record) {
	t.Helper()
	p := newPen(t, "ab")
	checkEnded(t, p, false)
	var came []api.Record
	ahead := ""
	for _, r := range l {
		e := fault(came, r)
		if e != api.OK {
			checkAdd(t, p, r, "", e)
		} else {
			came = append(came, r)
			now := told(came)
			if !strings.HasPrefix(now, ahead) {
				t.Fatalf("%x is no beginning of %x", ahead, now)
			}
			checkAdd(t, p, r, now[len(ahead):], api.OK)
			ahead = now
		}
		checkEnded(t, p, len(came) > 0 && came[len(came)-1].Kind == 6)
	}
	checkCert(t, "ab", l)
	checkCert(t, "", came)
	if t.Failed() {
		t.Fatalf("of %s", short(l))
	}
}

// good is records that may be written, of which neighbours are put together, or differ in one thing alone.
func good() []api.Record {
	return []api.Record{
		skip(2, 1), skip(2, 3), skip(1, 1), skip(2, most-2), jump(2, 1), miss(2, 1), miss(300, most),
		hits(), hits(0), hits(3, 7), check(2, 1), check(0, 0), end(2, 1), end(0, 0),
	}
}

// bad is records that may not be written, of each kind, and of none.
func bad() []api.Record {
	return []api.Record{
		{}, {Kind: 7}, {Kind: -1, N: 1, R: 1}, skip(2, 0), skip(0, 1), skip(2, most+1), jump(-2, 1), miss(2, -1), with(skip(2, 1), 0),
		hits(1, 1), hits(1, 0), hits(-1), hits(lastId + 1), {Kind: 4, N: 1}, {Kind: 4, R: 1}, check(-1, 0), check(0, most+1), with(check(2, 1), 1), end(0, -1), end(most+1, 0), with(end(2, 1), 0),
	}
}

// lists calls f with each list of so many records, at most, out of some.
func lists(some []api.Record, most int, f func([]api.Record)) {
	var grow func([]api.Record)
	grow = func(l []api.Record) {
		f(l)
		if len(l) == most {
			return
		}
		for _, r := range some {
			grow(append(slices.Clone(l), r))
		}
	}
	grow(nil)
}

// 30.1, 30.2: the chapter's example.
func TestExample(t *testing.T) {
	const top = "\x63\x65\x72\x74\x01\x01\x02\x61\x62"
	p, s, e := pen.New("ab")
	if p == nil || s != top || e != api.OK {
		t.Fatalf("New: %p, %x, %v; want a pen, %x", p, s, e, top)
	}
	checkAdd(t, p, skip(2, 1), "", api.OK)
	checkAdd(t, p, skip(2, 1), "", api.OK)
	checkEnded(t, p, false)
	checkAdd(t, p, end(4, 0), "\x01\x02\x02\x06\x04\x00", api.OK)
	checkEnded(t, p, true)
	checkAdd(t, p, skip(2, 1), "", api.ErrState)
	checkWhole(t, "ab", list(skip(2, 1), skip(2, 1), end(4, 0)), top+"\x01\x02\x02\x06\x04\x00", api.OK)
}

// 30.1: what each record lets be told, and when.
func TestAdd(t *testing.T) {
	p := newPen(t, "")
	for _, q := range []struct {
		r    api.Record
		want string
		e    api.Errno
	}{
		{check(0, 0), "", api.ErrOrder},
		{hits(3, 7), "", api.OK},
		{hits(3, 7), "\x04\x02\x03\x04", api.OK},
		{skip(300, 2), "\x04\x02\x03\x04", api.OK},
		{skip(300, 1), "", api.OK},
		{jump(300, 1), "\x01\xac\x02\x03", api.OK},
		{skip(0, 1), "", api.ErrArg},
		{jump(300, 127), "", api.OK},
		{check(9, 4), "\x02\xac\x02\x80\x01", api.OK},
		{check(9, 4), "", api.ErrOrder},
		{check(-9, 4), "", api.ErrArg},
		{miss(1, 1), "\x05\x09\x04", api.OK},
		{check(10, 4), "\x03\x01\x01", api.OK},
		{hits(), "\x05\x0a\x04", api.OK},
		{end(11, -4), "", api.ErrArg},
		{end(11, 4), "\x04\x00\x06\x0b\x04", api.OK},
		{end(11, 4), "", api.ErrState},
		{check(11, 4), "", api.ErrState},
		{api.Record{}, "", api.ErrState},
	} {
		checkAdd(t, p, q.r, q.want, q.e)
		checkEnded(t, p, q.r.Kind == 6 && q.e == api.OK || q.e == api.ErrState)
	}
}

// 30.1, 30.2: all short lists of records, such as may be written and such as may not.
func TestLists(t *testing.T) {
	lists(good(), 4, func(l []api.Record) { checkComing(t, l) })
	lists(append(good(), bad()...), 3, func(l []api.Record) { checkComing(t, l) })
}

// 30.1: longer lists of few records, of which many are put together.
func TestLongerLists(t *testing.T) {
	lists(list(skip(1, 1), skip(1, 2), miss(1, 1)), 8, func(l []api.Record) {
		checkComing(t, append(slices.Clone(l), end(len(l), 0)))
	})
	lists(list(skip(1, 1), hits(2), check(1, 1), end(1, 1)), 6, func(l []api.Record) { checkComing(t, l) })
}

// kinds is the kinds of records, such as are none, and such as are one in fewer bits.
func kinds() []int {
	l := []int{math.MinInt, math.MaxInt, 1<<8 + 1, 1<<8 + 6, 1<<16 + 3, 1<<32 + 5, 1 - 1<<32, 4 - 1<<8, 255, 256}
	for n := -6; n <= 9; n++ {
		l = append(l, n)
	}
	return l
}

// numbers is small ones, those beside the edges of bytes and of offsets, and as many below 0.
func numbers() []int {
	l := []int{math.MinInt, math.MaxInt, -300, 127, 128, 300, 1 << 31, 1 << 32}
	for d := range 3 {
		l = append(l, d, -d, most-d, most+d, -most-d)
	}
	return l
}

// 30.1: one record of each kind, with each N and R, and few Ids, as the first one and behind another one.
func TestEachRecord(t *testing.T) {
	for _, kind := range kinds() {
		for _, n := range numbers() {
			for _, r := range numbers() {
				for _, ids := range [][]int{nil, {0}} {
					one := api.Record{Kind: kind, N: n, R: r, Ids: ids}
					checkComing(t, list(one, one))
					checkComing(t, list(hits(1), one, one, end(1, 1), one))
				}
			}
		}
	}
}

// 30.1: lists of Ids, with edges, and such as are no pattern's in more bits.
func TestIds(t *testing.T) {
	for _, ids := range [][]int{
		{0, 1}, {0, lastId}, {lastId}, {lastId - 1, lastId}, {0, 128, 257, 16640, 33025}, rising(0, 65535), rising(5, 300),
		{lastId + 1}, {0, lastId + 1}, {-1, 0}, {0, -1}, {2, 1}, {1, 3, 3}, {1<<16 + 1}, {1<<32 + 1}, {1, 2 + 1<<32}, {math.MaxInt}, {math.MinInt}, rising(0, 65536), rising(1, 65535),
	} {
		checkComing(t, list(hits(ids...), skip(1, 1), hits(ids...), hits(ids...), end(4, 9)))
	}
}

// 30.1: a Check is neither first nor behind a Check; a record that was refused, and one that was told, does not count between.
func TestChecks(t *testing.T) {
	p := newPen(t, "x")
	for range 2 {
		checkAdd(t, p, check(1, 0), "", api.ErrOrder)
		checkAdd(t, p, check(0, 0), "", api.ErrOrder)
	}
	checkAdd(t, p, skip(0, 0), "", api.ErrArg)
	checkAdd(t, p, check(0, 0), "", api.ErrOrder)
	checkAdd(t, p, hits(), "", api.OK)
	checkAdd(t, p, check(1, 0), "\x04\x00", api.OK)
	for range 2 {
		checkAdd(t, p, check(1, 0), "", api.ErrOrder)
		checkAdd(t, p, check(2, 5), "", api.ErrOrder)
		checkAdd(t, p, hits(1, 0), "", api.ErrArg)
	}
	checkAdd(t, p, end(1, 0), "\x05\x01\x00\x06\x01\x00", api.OK)
	checkWhole(t, "x", list(check(0, 0), end(0, 0)), "", api.ErrOrder)
	checkWhole(t, "x", list(end(0, 0)), headOf("x")+"\x06\x00\x00", api.OK)
	for kind, r := range list(skip(1, 1), jump(1, 1), miss(1, 1), hits()) {
		checkWhole(t, "x", list(r, check(0, 0), end(0, 0)), headOf("x")+bytesOf(r)+"\x05\x00\x00\x06\x00\x00", api.OK)
		checkWhole(t, "x", list(r, check(0, 0), r, check(7, 7), r, end(0, 0)), headOf("x")+bytesOf(r)+"\x05\x00\x00"+bytesOf(r)+"\x05\x07\x07"+bytesOf(r)+"\x06\x00\x00", api.OK)
		if t.Failed() {
			t.Fatal(kind + 1)
		}
	}
}

// 30.1: R's that are too great together stay apart.
func TestFull(t *testing.T) {
	for kind := 1; kind <= 3; kind++ {
		one := func(r int) api.Record { return api.Record{Kind: kind, N: 5, R: r} }
		top := bytesOf(one(most))
		checkComing(t, list(one(most-1), one(1), end(0, 0)))
		checkComing(t, list(one(most), one(1), one(1), end(0, 0)))
		checkComing(t, list(one(1), one(most), one(1), end(0, 0)))
		checkComing(t, list(one(most/2+1), one(most/2+1), one(most), end(0, 0)))
		checkWhole(t, "", list(one(most-1), one(1), end(0, 0)), headOf("")+top+"\x06\x00\x00", api.OK)
		checkWhole(t, "", list(one(most), one(1), one(1), end(0, 0)), headOf("")+top+bytesOf(one(2))+"\x06\x00\x00", api.OK)
	}
}

// 30.1, 30.2: files of all kinds and lengths, of which nothing but their bytes is asked.
func TestFiles(t *testing.T) {
	x, e := pats.New([]string{"abc", "bc"})
	if e != api.OK {
		t.Fatal(e)
	}
	l := []string{"", "a", "\x00", "\xff\xfe", "cert\x01", headOf("ab"), book.Put(x), body(126), body(127), body(128), body(129), body(300), body(16383), body(16384), body(1 << 21)}
	for c := range 256 {
		l = append(l, string([]byte{byte(c)}))
	}
	for _, file := range l {
		p := newPen(t, file)
		checkEnded(t, p, false)
		checkAdd(t, p, end(0, 0), "\x06\x00\x00", api.OK)
		checkCert(t, file, list(end(0, 0)))
		checkCert(t, file, list(skip(1, 1), hits(0), check(1, 1), end(0, 0)))
		checkCert(t, file, nil)
	}
}

// 30.1, 30.2: the longest file, and such as are too long, whatever the records are.
func TestLongest(t *testing.T) {
	long := body(mostFile + 1000)
	file := long[:mostFile]
	newPen(t, file)
	checkCert(t, file, list(hits(0), end(0, 0)))
	checkWhole(t, file, nil, "", api.ErrEnd)
	checkWhole(t, file, list(api.Record{}), "", api.ErrArg)
	for _, n := range []int{1, 2, 1000} {
		p, s, e := pen.New(long[:mostFile+n])
		if p != nil || s != "" || e != api.ErrLong {
			t.Errorf("New of %d bytes: %p, %d bytes, %v; want nil, nothing, %v", mostFile+n, p, len(s), e, api.ErrLong)
		}
		for _, l := range [][]api.Record{nil, {end(0, 0)}, {{}}, {check(0, 0)}, {end(0, 0), end(0, 0)}, {hits()}} {
			checkWhole(t, long[:mostFile+n], l, "", api.ErrLong)
		}
	}
}

// 30.2: each error alone, and which of several comes first.
func TestWholeErrors(t *testing.T) {
	for _, q := range []struct {
		l []api.Record
		e api.Errno
	}{
		{nil, api.ErrEnd},
		{list(), api.ErrEnd},
		{list(hits()), api.ErrEnd},
		{list(skip(1, 1), check(1, 0)), api.ErrEnd},
		{list(check(1, 0)), api.ErrOrder},
		{list(api.Record{}), api.ErrArg},
		{list(end(0, -1)), api.ErrArg},
		{list(end(0, 0), end(0, 0)), api.ErrState},
		{list(end(0, 0), hits()), api.ErrState},
		{list(end(0, 0), hits(), end(0, 0)), api.ErrState},
		{list(end(0, 0), api.Record{}), api.ErrState},
		{list(end(0, 0), check(0, 0)), api.ErrState},
		{list(check(0, 0), api.Record{}, end(0, 0), end(0, 0)), api.ErrOrder},
		{list(api.Record{}, check(0, 0), end(0, 0), end(0, 0)), api.ErrArg},
		{list(hits(), end(0, 0), api.Record{}, check(0, 0)), api.ErrState},
		{list(hits(), check(0, 0), check(0, 0), api.Record{}), api.ErrOrder},
		{list(hits(), check(0, 0), check(0, -1), check(0, 0)), api.ErrArg},
		{list(check(-1, 0), end(0, 0)), api.ErrArg},
	} {
		checkWhole(t, "ab", q.l, "", q.e)
		checkWhole(t, "", q.l, "", q.e)
	}
}

// 30.1: a nil pen, whatever comes to it.
func TestNil(t *testing.T) {
	var p *pen.Pen
	for _, r := range append(good(), bad()...) {
		checkAdd(t, p, r, "", api.ErrNil)
		checkEnded(t, p, false)
	}
}

// A pen's Flush is its merger's: what is flushed is told then, and does not come again; what came, came.
func TestFlush(t *testing.T) {
	checkFlush := func(p *pen.Pen, want api.Record, ok bool) {
		t.Helper()
		if r, o := p.Flush(); !sameRecord(r, want) || o != ok {
			t.Errorf("Flush(): %s, %v; want %s, %v", short(r), o, short(want), ok)
		}
	}
	none := api.Record{}
	p := newPen(t, "ab")
	checkFlush(p, none, false)
	checkAdd(t, p, check(0, 0), "", api.ErrOrder)
	checkAdd(t, p, skip(2, 1), "", api.OK)
	checkAdd(t, p, skip(2, 4), "", api.OK)
	checkFlush(p, skip(2, 5), true)
	checkFlush(p, none, false)
	checkAdd(t, p, check(9, 0), "", api.OK)
	checkFlush(p, check(9, 0), true)
	checkAdd(t, p, check(9, 0), "", api.ErrOrder)
	checkAdd(t, p, skip(2, 1), "", api.OK)
	checkAdd(t, p, end(9, 0), "\x01\x02\x01\x06\x09\x00", api.OK)
	checkFlush(p, none, false)
	checkEnded(t, p, true)
	checkAdd(t, p, end(9, 0), "", api.ErrState)
	q := newPen(t, "")
	checkAdd(t, q, hits(1), "", api.OK)
	checkFlush(q, hits(1), true)
	checkAdd(t, q, end(1, 1), "\x06\x01\x01", api.OK)
}

// parted calls f with each way in which a number of times is parted into some, each once or more.
func parted(times int, f func([]int)) {
	var grow func([]int, int)
	grow = func(l []int, left int) {
		if left == 0 {
			f(l)
			return
		}
		for n := 1; n <= left; n++ {
			grow(append(slices.Clone(l), n), left-n)
		}
	}
	grow(nil, times)
}

// 30.3: however records come put together, what is told bit by bit is the whole.
func TestParted(t *testing.T) {
	for kind := 1; kind <= 3; kind++ {
		one := func(n, r int) api.Record { return api.Record{Kind: kind, N: n, R: r} }
		want := headOf("ab") + bytesOf(one(2, 6)) + "\x04\x00" + bytesOf(one(2, 4)) + bytesOf(one(3, 1)) + "\x06\x11\x00"
		parted(6, func(a []int) {
			parted(4, func(b []int) {
				var l []api.Record
				for _, r := range a {
					l = append(l, one(2, r))
				}
				l = append(l, hits())
				for _, r := range b {
					l = append(l, one(2, r))
				}
				l = append(l, one(3, 1), end(17, 0))
				checkWhole(t, "ab", l, want, api.OK)
				checkWhole(t, "ab", merge.All(l), want, api.OK)
				checkBits(t, "ab", l, want)
			})
		})
	}
}

// checkBits puts together what a pen tells bit by bit, while another one writes other records.
func checkBits(t *testing.T, file string, l []api.Record, want string) {
	t.Helper()
	p, s, _ := pen.New(file)
	q := newPen(t, "other")
	for i, r := range l {
		q.Add(l[len(l)/2])
		b, e := p.Add(r)
		if e != api.OK {
			t.Fatalf("Add(%s): %v", short(r), e)
		}
		s += b
		checkEnded(t, p, i == len(l)-1)
	}
	if s != want {
		t.Errorf("bit by bit %d bytes %.80x; want %d bytes %.80x", len(s), s, len(want), want)
	}
}

// through is all evidence of a stream, one by one, with Checks between, and an End.
func through(t *testing.T, x *pats.Set, s string, skips bool) []api.Record {
	t.Helper()
	l := leap.New(x, skips)
	k, e := carry.New(l.Keep())
	if e != api.OK {
		t.Fatal(e)
	}
	k.Add(s)
	rs, at := l.Run(k, 0)
	if r, ok := l.Last(k, at); ok {
		rs = append(rs, r)
	}
	named := 0
	var out []api.Record
	for i, r := range rs {
		out = append(out, r)
		named += len(r.Ids)
		if i%3 == 2 {
			out = append(out, check(i, named))
		}
	}
	return append(out, end(len(s), named))
}

// checkRead reads a certificate back: its file, and its records, like ones put together.
func checkRead(t *testing.T, cert, file string, want []api.Record) {
	t.Helper()
	f, size, e := head.Take(cert)
	if f != file || e != api.OK {
		t.Fatalf("head.Take(%.80x): %d bytes, %v; want %d bytes", cert, len(f), e, len(file))
	}
	left := cert[size:]
	for i, w := range want {
		r, size, e := record.Take(left)
		if !sameRecord(r, w) || e != api.OK {
			t.Fatalf("record %d: %s, %v; want %s", i, short(r), e, short(w))
		}
		left = left[size:]
	}
	if left != "" {
		t.Errorf("%.40x is left behind %d records", left, len(want))
	}
}

// 30.2, 30.3: the evidence of streams, written and read back, with and without skips.
func TestEvidence(t *testing.T) {
	for _, l := range [][]string{{"abc", "bc"}, {"a"}, {"ab", "bab"}, {"aaaa"}, {"b", "ab", "aab"}} {
		x, e := pats.New(l)
		if e != api.OK {
			t.Fatal(e)
		}
		file := book.Put(x)
		for _, s := range []string{"", "a", "xabcx", strings.Repeat("x", 999), "aaaaaaaaaaa", "abababbabcabcxxxxxxxxabc", "baabaaab"} {
			for _, skips := range []bool{true, false} {
				rs := through(t, x, s, skips)
				cert, e := pen.Whole(file, rs)
				if e != api.OK {
					t.Fatal(e)
				}
				checkRead(t, cert, file, together(rs))
				checkBits(t, file, rs, cert)
				if n := rs[len(rs)-1].R; n != len(occ.All(x, s)) {
					t.Errorf("%d hits; want %d", n, len(occ.All(x, s)))
				}
			}
		}
	}
}

// 30.1: many records, of which some are put together, come and are told.
func TestMany(t *testing.T) {
	const n = 1 << 18
	var l []api.Record
	var b strings.Builder
	b.WriteString(headOf("ab"))
	for i := range n {
		switch i % 256 {
		case 0:
			b.WriteString(bytesOf(miss(i/256+1, 254)))
			fallthrough
		default:
			l = append(l, miss(i/256+1, 1))
		case 254:
			l = append(l, hits(i/256, i))
			l[len(l)-1].Ids[1] = i/256 + 1
			b.WriteString(bytesOf(hits(i/256, i/256+1)))
		case 255:
			l = append(l, check(i, 2*(i/256)))
			b.WriteString(bytesOf(check(i, 2*(i/256))))
		}
	}
	l = append(l, end(n, 0))
	b.WriteString(bytesOf(end(n, 0)))
	checkWhole(t, "ab", l, b.String(), api.OK)
	checkBits(t, "ab", l, b.String())
}

// R4: what is handed in stays as it was, and what lies behind a list's length is neither read nor written.
func TestHandedIn(t *testing.T) {
	room := []int{3, 7, 7, -8, -9}
	l := list(hits(), api.Record{Kind: 4, Ids: room[:2]}, api.Record{Kind: 1, N: 1, R: 1, Ids: room[:0]}, skip(1, 1), end(4, 2), api.Record{}, end(0, 0))
	before := slices.Clone(l)
	for range 2 {
		checkWhole(t, "", l[:5], headOf("")+"\x04\x00\x04\x02\x03\x04\x01\x01\x02\x06\x04\x02", api.OK)
		checkWhole(t, "", l[:4], "", api.ErrEnd)
		p := newPen(t, "")
		for _, r := range l[:5] {
			p.Add(r)
		}
	}
	if !slices.EqualFunc(l, before, sameRecord) || !slices.Equal(room, []int{3, 7, 7, -8, -9}) {
		t.Errorf("%+v, %v; want them as they were", l, room)
	}
}

// R4: a record that came is none of what was handed in: who changes that changes nothing that is told.
func TestApart(t *testing.T) {
	p := newPen(t, "")
	ids := []int{3, 7}
	r := api.Record{Kind: 4, Ids: ids}
	checkAdd(t, p, r, "", api.OK)
	ids[0], ids[1] = 9, 1
	checkAdd(t, p, r, "", api.ErrArg)
	ids[1] = 10
	checkAdd(t, p, r, "\x04\x02\x03\x04", api.OK)
	ids[0] = -1
	checkAdd(t, p, end(2, 4), "\x04\x02\x09\x01\x06\x02\x04", api.OK)
}

// R5: the same again; what one pen is told another one does not know.
func TestAgain(t *testing.T) {
	l := list(skip(2, 1), skip(2, 2), hits(1, 2), check(7, 2), miss(1, 1), end(8, 2))
	want, _ := wantWhole("ab", l)
	for range 3 {
		checkWhole(t, "ab", l, want, api.OK)
		checkWhole(t, "ab", l[:3], "", api.ErrEnd)
		checkWhole(t, "ab", append(slices.Clone(l), hits()), "", api.ErrState)
		checkBits(t, "ab", l, want)
	}
}

// freed is whether memory is given up, as far as that is to be seen.
func freed[T any](p weak.Pointer[T]) bool {
	for range 5 {
		runtime.GC()
	}
	return p.Value() == nil
}

// R4, T7: a pen keeps neither the file, nor the head, nor lists that were handed in.
func TestKept(t *testing.T) {
	file := new([1 << 20]byte)
	pf := weak.Make(file)
	p, s, e := pen.New(unsafe.String(&file[0], len(file)))
	if e != api.OK || len(s) != len(file)+9 {
		t.Fatalf("New: %d bytes, %v; want %d", len(s), e, len(file)+9)
	}
	file, s = nil, ""
	if !freed(pf) {
		t.Error("the file is kept")
	}
	for _, n := range []int{0, 1} {
		room := new([9999]int)
		pr := weak.Make(room)
		checkAdd(t, p, api.Record{Kind: 4, Ids: room[:n]}, strings.Repeat("\x04\x00", n), api.OK)
		room = nil
		if !freed(pr) {
			t.Errorf("the memory of a list of %d is kept", n)
		}
	}
	checkAdd(t, p, end(1, 1), "\x04\x01\x00\x06\x01\x01", api.OK)
}

// inUse is how much memory is in use.
func inUse() int {
	var m runtime.MemStats
	for range 3 {
		runtime.GC()
	}
	runtime.ReadMemStats(&m)
	return int(m.HeapAlloc)
}

// T7: a pen keeps little, however long its file is, and however many records came.
func TestLittle(t *testing.T) {
	before := inUse()
	p, _, e := pen.New(strings.Repeat("ab", 1<<23))
	if e != api.OK {
		t.Fatal(e)
	}
	for i := range 1 << 19 {
		p.Add(miss(i/3+1, 1))
		if i%5 == 0 {
			p.Add(hits(i%60000, i%60000+1))
			p.Add(check(i, i))
		}
	}
	if more := inUse() - before; more > 1<<16 {
		t.Errorf("%d bytes more are in use", more)
	}
	p.Add(hits(rising(0, 65535)...))
	p.Add(end(1, 1))
	if more := inUse() - before; more > 1<<16 {
		t.Errorf("behind the End %d bytes more are in use", more)
	}
	runtime.KeepAlive(p)
}
