package lens_test

import (
	"fmt"
	"runtime"
	"slices"
	"strings"
	"testing"
	"unsafe"
	"weak"

	"jurat/api"
	"jurat/book"
	"jurat/carry"
	"jurat/head"
	"jurat/leap"
	"jurat/lens"
	"jurat/merge"
	"jurat/occ"
	"jurat/pats"
	"jurat/pen"
)

const (
	// most is the greatest offset, 2^62 - 1, as chapter 3 writes it.
	most = 1<<62 - 1
	// lastId is the greatest Id that may be written.
	lastId = 65534
)

func skip(n, r int) api.Record          { return api.Record{Kind: 1, N: n, R: r} }
func jump(n, r int) api.Record          { return api.Record{Kind: 2, N: n, R: r} }
func miss(n, r int) api.Record          { return api.Record{Kind: 3, N: n, R: r} }
func hits(ids ...int) api.Record        { return api.Record{Kind: 4, Ids: ids} }
func check(n, r int) api.Record         { return api.Record{Kind: 5, N: n, R: r} }
func end(n, r int) api.Record           { return api.Record{Kind: 6, N: n, R: r} }
func list(l ...api.Record) []api.Record { return l }

// rising is so many Ids, from one on, each so far above the one ahead.
func rising(from, many, step int) []int {
	var l []int
	for i := range many {
		l = append(l, from+i*step)
	}
	return l
}

// short is how anything looks, as far as it is short.
func short(v any) string {
	s := fmt.Sprintf("%+v", v)
	return s[:min(len(s), 300)]
}

// same is whether two records are, of which lists nil and empty ones are the same.
func same(a, b api.Record) bool {
	return a.Kind == b.Kind && a.N == b.N && a.R == b.R && slices.Equal(a.Ids, b.Ids)
}

// number is a number's bytes, lowest digit first, a power of 128 each.
func number(n uint64) string {
	if n < 128 {
		return string([]byte{byte(n)})
	}
	return string([]byte{byte(n%128 + 128)}) + number(n/128)
}

// bytesOf is the bytes of records, whether they may stand behind each other or not.
func bytesOf(l ...api.Record) string {
	var b strings.Builder
	for _, r := range l {
		b.WriteByte(byte(r.Kind))
		if r.Kind != 4 {
			b.WriteString(number(uint64(r.N)) + number(uint64(r.R)))
			continue
		}
		b.WriteString(number(uint64(len(r.Ids))))
		for i, id := range r.Ids {
			if i > 0 {
				id -= r.Ids[i-1]
			}
			b.WriteString(number(uint64(id)))
		}
	}
	return b.String()
}

// The answers as the chapters word them.

// takeNumber is the number with which bytes begin, and what stands behind it.
func takeNumber(s string) (uint64, string, api.Errno) {
	var n uint64
	for i := range min(len(s), 9) {
		n += uint64(s[i]%128) << (7 * i)
		switch {
		case s[i] >= 128:
			continue
		case s[i] == 0 && i > 0:
			return 0, "", api.ErrForm
		}
		return n, s[i+1:], api.OK
	}
	if len(s) >= 9 {
		return 0, "", api.ErrLong
	}
	return 0, "", api.ErrShort
}

// takeOffset is an N or an R, and what stands behind it.
func takeOffset(s string, kind byte) (int, string, api.Errno) {
	n, s, e := takeNumber(s)
	switch {
	case e != api.OK:
		return 0, "", e
	case n > most, n == 0 && kind <= 3:
		return 0, "", api.ErrRange
	}
	return int(n), s, api.OK
}

// takeIds is the Ids of an At, and what stands behind them.
func takeIds(s string) ([]int, string, api.Errno) {
	count, s, e := takeNumber(s)
	switch {
	case e != api.OK:
		return nil, "", e
	case count > 65535:
		return nil, "", api.ErrMany
	}
	var ids []int
	var id uint64
	for i := range count {
		var n uint64
		n, s, e = takeNumber(s)
		id += n
		switch {
		case e != api.OK:
			return nil, "", e
		case n == 0 && i > 0:
			return nil, "", api.ErrOrder
		case id > lastId:
			return nil, "", api.ErrRange
		}
		ids = append(ids, int(id))
	}
	return ids, s, api.OK
}

// take is the record with which bytes begin, and what stands behind it.
func take(s string) (api.Record, string, api.Errno) {
	if s == "" {
		return api.Record{}, "", api.ErrShort
	}
	r, e, left := api.Record{Kind: int(s[0])}, api.OK, s[1:]
	switch s[0] {
	case 1, 2, 3, 5, 6:
		r.N, left, e = takeOffset(left, s[0])
		if e == api.OK {
			r.R, left, e = takeOffset(left, s[0])
		}
	case 4:
		r.Ids, left, e = takeIds(left)
	default:
		e = api.ErrForm
	}
	if e != api.OK {
		return api.Record{}, "", e
	}
	return r, left, api.OK
}

// model is a lens as the chapter words it: the bytes that were not read, the records that were, whether it is closed, and what Next told ahead, if that was an error.
type model struct {
	left   string
	read   []api.Record
	closed bool
	wrong  api.Errno
}

// ended is whether an End was read.
func (m *model) ended() bool {
	n := len(m.read)
	return n > 0 && m.read[n-1].Kind == 6
}

// unfit is whether a record may not stand behind the one that was read ahead of it.
func (m *model) unfit(r api.Record) bool {
	n := len(m.read)
	if n == 0 {
		return r.Kind == 5
	}
	a := m.read[n-1]
	if r.Kind == 5 && a.Kind == 5 {
		return true
	}
	return r.Kind <= 3 && a.Kind == r.Kind && a.N == r.N && uint64(a.R)+uint64(r.R) <= most
}

// next is what Next is to tell.
func (m *model) next() (api.Record, bool, api.Errno) {
	r, left, e := take(m.left)
	switch {
	case m.wrong != api.OK:
	case m.ended() && m.left != "":
		m.wrong = api.ErrMore
	case m.ended():
	case e == api.ErrShort && !m.closed:
	case e != api.OK:
		m.wrong = e
	case m.unfit(r):
		m.wrong = api.ErrOrder
	default:
		m.left, m.read = left, append(m.read, r)
		return r, true, api.OK
	}
	return api.Record{}, false, m.wrong
}

// feed is what Feed is to tell.
func (m *model) feed(s string) api.Errno {
	if m.closed {
		return api.ErrState
	}
	m.left += s
	return api.OK
}

// wantAll is what All is to tell.
func wantAll(s string) ([]api.Record, api.Errno) {
	m := &model{left: s, closed: true}
	for {
		_, ok, e := m.next()
		switch {
		case e != api.OK:
			return nil, e
		case !ok:
			return m.read, api.OK
		}
	}
}

// both is a lens, and what it is to be, to which the same is done.
type both struct {
	t *testing.T
	l *lens.Lens
	m *model
}

func newBoth(t *testing.T) both {
	t.Helper()
	b := both{t, lens.New(), &model{}}
	if b.l == nil {
		t.Fatal("New(): nil")
	}
	b.ask()
	return b
}

// ask asks what changes nothing.
func (b both) ask() {
	b.t.Helper()
	if n := b.l.Held(); n != len(b.m.left) {
		b.t.Fatalf("behind %s: Held(): %d; want %d, %.40x", short(b.m.read), n, len(b.m.left), b.m.left)
	}
	if ok := b.l.Ended(); ok != b.m.ended() {
		b.t.Fatalf("behind %s: Ended(): %v; want %v", short(b.m.read), ok, b.m.ended())
	}
}

func (b both) feed(s string) {
	b.t.Helper()
	want := b.m.feed(s)
	if e := b.l.Feed(s); e != want {
		b.t.Fatalf("behind %s: Feed(%.40x): %v; want %v", short(b.m.read), s, e, want)
	}
	b.ask()
}

func (b both) close() {
	b.t.Helper()
	b.m.closed = true
	b.l.Close()
	b.ask()
}

// next reads a record, and is whether there was one.
func (b both) next() bool {
	b.t.Helper()
	ahead, left := b.m.read, b.m.left
	r, ok, e := b.l.Next()
	w, wok, we := b.m.next()
	if !same(r, w) || ok != wok || e != we {
		b.t.Fatalf("behind %s, of %.40x, closed %v: Next(): %s, %v, %v; want %s, %v, %v", short(ahead), left, b.m.closed, short(r), ok, e, short(w), wok, we)
	}
	b.ask()
	return ok
}

// drain reads what is there, and asks again.
func (b both) drain() {
	b.t.Helper()
	for b.next() {
	}
	b.next()
}

func checkAll(t *testing.T, s string, want []api.Record, we api.Errno) {
	t.Helper()
	l, e := lens.All(s)
	if !slices.EqualFunc(l, want, same) || e != we || e != api.OK && l != nil {
		t.Fatalf("All of %d bytes %.60x: %d: %s, %v; want %d: %s, %v", len(s), s, len(l), short(l), e, len(want), short(want), we)
	}
}

// checkText asks for all records of any bytes.
func checkText(t *testing.T, s string) {
	t.Helper()
	l, e := wantAll(s)
	checkAll(t, s, l, e)
}

// parts hands bytes over in parts of a size, and reads behind each, or behind all.
func parts(t *testing.T, s string, size int, each bool) both {
	t.Helper()
	b := newBoth(t)
	for i := 0; i < len(s); i += size {
		b.feed(s[i:min(i+size, len(s))])
		if each {
			b.drain()
		}
	}
	b.drain()
	return b
}

// closing closes a lens, and asks what is told from then on.
func (b both) closing() {
	b.t.Helper()
	b.close()
	b.feed("\x01")
	b.drain()
	b.feed("")
	b.close()
	b.drain()
}

// checkParts asks for what is told of bytes that come whole, byte by byte, and else.
func checkParts(t *testing.T, s string) {
	t.Helper()
	checkText(t, s)
	for _, each := range []bool{true, false} {
		for _, size := range []int{1, 2, 3, 7, len(s) + 1} {
			parts(t, s, size, each).closing()
		}
	}
}

// texts calls f with each text of so many pieces, at most, out of some.
func texts(some []string, most int, f func(string)) {
	var grow func(string, int)
	grow = func(s string, n int) {
		f(s)
		if n == most {
			return
		}
		for _, p := range some {
			grow(s+p, n+1)
		}
	}
	grow("", 0)
}

// 31.2, 31.3: the chapter's examples.
func TestExamples(t *testing.T) {
	checkAll(t, "\x01\x02\x02\x06\x04\x00", list(skip(2, 2), end(4, 0)), api.OK)
	checkAll(t, "\x01\x02\x01\x01\x02\x01", nil, api.ErrOrder)
	l := lens.New()
	l.Feed("\x01\x02\x01\x01\x02\x01")
	if r, ok, e := l.Next(); !same(r, skip(2, 1)) || !ok || e != api.OK {
		t.Errorf("Next(): %+v, %v, %v; want Skip 2", r, ok, e)
	}
	if r, ok, e := l.Next(); !same(r, api.Record{}) || ok || e != api.ErrOrder {
		t.Errorf("Next(): %+v, %v, %v; want %v", r, ok, e, api.ErrOrder)
	}
	if l.Held() != 3 {
		t.Errorf("Held(): %d; want 3", l.Held())
	}
}

// 31.1, 31.2: what is told of one lens, one by one.
func TestLens(t *testing.T) {
	b := newBoth(t)
	for _, s := range []string{"", "\x04", "\x02\x03", "\x04", "\x05\x09\x04\x03", "\x01\x01\x03\x02", "", "\x01\x04\x00\x04\x00\x06\x0b", "\x04", "", "\x01"} {
		b.next()
		b.next()
		b.feed(s)
	}
	if want := list(hits(3, 7), check(9, 4), miss(1, 1), miss(2, 1), hits(), hits(), end(11, 4)); !slices.EqualFunc(b.m.read, want, same) {
		t.Fatalf("read: %s; want %s", short(b.m.read), short(want))
	}
	if r, ok, e := b.l.Next(); !same(r, api.Record{}) || ok || e != api.ErrMore {
		t.Errorf("Next(): %+v, %v, %v; want %v", r, ok, e, api.ErrMore)
	}
}

// good is records of all kinds, of which neighbours are put together, or differ in one thing alone.
func good() []api.Record {
	return []api.Record{
		skip(2, 1), skip(2, 3), skip(1, 1), skip(2, most-2), jump(2, 1), jump(2, 2), miss(2, 1), miss(2, most), miss(300, most),
		hits(), hits(0), hits(3, 7), hits(300), check(2, 1), check(0, 0), end(2, 1), end(0, 0), end(most, most), check(most, 300),
	}
}

// bad is bytes with which no record begins, by each error, and such as are cut off.
func bad() []string {
	return []string{
		"\x00", "\x07", "\xff", "\x00\x01\x01", "\x01\x80\x00", "\x05\x01\x80\x00", "\x01\x00", "\x02\x01\x00", "\x03\x00\x01",
		"\x06" + strings.Repeat("\xff", 9), "\x05" + strings.Repeat("\xff", 8) + "\x7f", "\x06\x01" + strings.Repeat("\xff", 8) + "\x40",
		"\x04\x80\x80\x04", "\x04\x02\x03\x00", "\x04\x01\xff\xff\x03", "\x04\x02\xfe\xff\x03\x01", "\x04\x01\x81\x00",
		"\x01", "\x01\x02", "\x01\xac", "\x03\x02\x80", "\x04", "\x04\x02\x03", "\x04\x80", "\x05\x00", "\x06\x80\x80",
	}
}

// 31.1 to 31.4: all lists of few records, and of what is none, in parts.
func TestTexts(t *testing.T) {
	var some []string
	for _, r := range good() {
		some = append(some, bytesOf(r))
	}
	texts(some, 3, func(s string) { checkText(t, s) })
	texts(append(some, bad()...), 2, func(s string) { checkParts(t, s) })
	few := []string{bytesOf(skip(2, 1)), bytesOf(jump(2, 1)), bytesOf(miss(1, 300)), bytesOf(hits(1, 400)), bytesOf(check(2, 1)), bytesOf(end(2, 1)), "\x04\x01", "\x00"}
	texts(few, 4, func(s string) { checkParts(t, s) })
	texts(few[2:6], 7, func(s string) { checkText(t, s) })
}

// 31.2, 31.3: all short texts of the bytes of which records are made.
func TestShortTexts(t *testing.T) {
	texts([]string{"\x00", "\x01", "\x02", "\x04", "\x05", "\x06", "\x80"}, 7, func(s string) { checkText(t, s) })
	texts([]string{"\x00", "\x01", "\x02", "\x03", "\x04", "\x05", "\x06", "\x07", "\x80", "\xff"}, 4, func(s string) { checkParts(t, s) })
}

// 31.2: each byte as the first one, and as the second one.
func TestEachByte(t *testing.T) {
	for a := range 256 {
		for c := range 256 {
			s := string([]byte{byte(a), byte(c)})
			checkText(t, s)
			checkText(t, s+"\x01\x06\x01\x01")
			parts(t, s+"\x01", 1, true).closing()
		}
	}
}

// 31.2: which records may stand behind which: all twos and threes.
func TestOrder(t *testing.T) {
	for _, q := range []struct {
		l []api.Record
		e api.Errno
	}{
		{list(check(0, 0)), api.ErrOrder},
		{list(check(0, 0), end(0, 0)), api.ErrOrder},
		{list(end(0, 0)), api.OK},
		{list(hits(), check(0, 0), end(0, 0)), api.OK},
		{list(hits(), check(0, 0), check(0, 0), end(0, 0)), api.ErrOrder},
		{list(hits(), check(0, 0), check(1, 1), end(0, 0)), api.ErrOrder},
		{list(hits(), check(0, 0), hits(), check(0, 0), end(0, 0)), api.OK},
		{list(hits(), hits(), hits(), end(0, 0)), api.OK},
		{list(hits(1), hits(1), end(0, 0)), api.OK},
		{list(skip(1, 1), jump(1, 1), miss(1, 1), skip(1, 1), end(0, 0)), api.OK},
		{list(skip(1, 1), skip(2, 1), skip(1, 1), end(0, 0)), api.OK},
		{list(skip(1, 1), check(1, 1), skip(1, 1), end(0, 0)), api.OK},
		{list(skip(1, 1), skip(1, 1), end(0, 0)), api.ErrOrder},
		{list(jump(1, 1), jump(1, 9), end(0, 0)), api.ErrOrder},
		{list(miss(1, 9), miss(1, 1), end(0, 0)), api.ErrOrder},
		{list(miss(1, most-1), miss(1, 1), end(0, 0)), api.ErrOrder},
		{list(miss(1, most-1), miss(1, 2), end(0, 0)), api.OK},
		{list(miss(1, most), miss(1, most), miss(1, most), end(0, 0)), api.OK},
		{list(skip(1, most), skip(1, 1), skip(1, 1), end(0, 0)), api.ErrOrder},
		{list(hits(1), end(0, 0), end(0, 0)), api.ErrMore},
		{list(end(0, 0), check(0, 0)), api.ErrMore},
		{list(hits(1)), api.ErrShort},
		{list(), api.ErrShort},
	} {
		want := q.l
		if q.e != api.OK {
			want = nil
		}
		checkAll(t, bytesOf(q.l...), want, q.e)
		checkParts(t, bytesOf(q.l...))
	}
	for _, a := range good() {
		for _, c := range good() {
			for _, d := range good() {
				checkText(t, bytesOf(a, c, d, end(1, 1)))
			}
		}
	}
}

// 31.2: which of several errors comes first.
func TestErrors(t *testing.T) {
	for _, q := range []struct {
		s string
		e api.Errno
	}{
		{"", api.ErrShort},
		{"\x01\x02", api.ErrShort},
		{"\x00", api.ErrForm},
		{"\x01\x00", api.ErrRange},
		{"\x04\x80\x80\x04", api.ErrMany},
		{"\x04\x02\x03\x00", api.ErrOrder},
		{"\x06" + strings.Repeat("\xff", 9), api.ErrLong},
		// A record that is none is told ahead of how it stands.
		{"\x05\x01\x80\x00", api.ErrForm},
		{"\x05\x01", api.ErrShort},
		{"\x01\x02\x01\x01\x02\x00", api.ErrRange},
		{"\x01\x02\x01\x01\x02", api.ErrShort},
		{"\x04\x00\x05\x00\x00\x05\x00" + strings.Repeat("\xff", 9), api.ErrLong},
		// How it stands is told ahead of what is behind it.
		{"\x05\x00\x00\x00", api.ErrOrder},
		{"\x01\x02\x01\x01\x02\x01\x00", api.ErrOrder},
		{"\x01\x02\x01\x01\x02\x01\x06\x00\x00\x01", api.ErrOrder},
		{"\x05\x00\x00\x06\x00\x00\x01", api.ErrOrder},
		// Behind an End nothing is read.
		{"\x06\x00\x00\x00", api.ErrMore},
		{"\x06\x00\x00\x06\x00\x00", api.ErrMore},
		{"\x06\x00\x00\x05\x00\x00", api.ErrMore},
		{"\x06\x00\x00\x01\x00", api.ErrMore},
		{"\x06\x00\x00\x01", api.ErrMore},
	} {
		checkAll(t, q.s, nil, q.e)
		checkParts(t, q.s)
	}
}

// steps is what may be done to a lens.
func steps(some []string) []func(both) {
	l := []func(both){func(b both) { b.t.Helper(); b.next() }, func(b both) { b.t.Helper(); b.close() }}
	for _, s := range some {
		l = append(l, func(b both) { b.t.Helper(); b.feed(s) })
	}
	return l
}

// orders does each so many steps one behind the other.
func orders(t *testing.T, l []func(both), most int) {
	t.Helper()
	total := 1
	for range most {
		total *= len(l)
	}
	for n := range total {
		b := newBoth(t)
		for range most {
			l[n%len(l)](b)
			n /= len(l)
		}
		b.drain()
	}
}

// 31.1, 31.2: all ways in which few bytes come, are read, and a lens is closed; what stays is told.
func TestOrders(t *testing.T) {
	orders(t, steps([]string{"\x06", "\x01"}), 8)
	orders(t, steps([]string{"\x04\x00", "\x05", "\x06\x00\x00", "\x00"}), 6)
	orders(t, steps([]string{"\x01\x02\x01", "\x01\x02\x01\x06\x00\x00", "", "\x01"}), 6)
	orders(t, steps([]string{"\x04\x00\x05\x00\x00", "\x05\x00\x00", "\x06\x00\x00"}), 6)
}

// 31.4: all partings of a text, with what is asked behind any of its parts, and what is wrong with it.
func TestPartings(t *testing.T) {
	for _, s := range []string{
		"\x01\xac\x02\x02\x04\x02\x03\x04\x06\x04\x00",
		"\x01\x02\x01\x01\x02\x01\x06\x01\x01",
		"\x04\x00\x05\x01\x01\x05\x01\x01\x06\x00",
		"\x06\x00\x00\x06\x00",
		"\x04\x03\x05\x01\x00\x01",
		"\x03\x01\x01\x02\x01\x01\x00",
	} {
		for cuts := range 1 << (len(s) - 1) {
			for _, asks := range []int{-1, 0, 0x555, 0x924} {
				b := newBoth(t)
				from, nth := 0, 0
				for i := 1; i <= len(s); i++ {
					if i < len(s) && cuts>>(i-1)&1 == 0 {
						continue
					}
					b.feed(s[from:i])
					if asks>>nth&1 == 1 {
						b.next()
					}
					from, nth = i, nth+1
				}
				b.drain()
				b.closing()
			}
		}
	}
}

// 31.1, 31.2: what is wrong stays wrong, whatever comes, and whether it is closed; what comes is held.
func TestWrong(t *testing.T) {
	for _, s := range append(bad(), bytesOf(check(1, 1)), bytesOf(skip(1, 1), skip(1, 1)), bytesOf(hits(), check(1, 1), check(1, 1)), bytesOf(end(0, 0), hits())) {
		b := newBoth(t)
		b.feed(s + "\x06")
		b.drain()
		for _, more := range []string{"", "\x04", "\x00\x06\x00\x00", "\x06\x00\x00", "\xff", "\x01\x01\x01"} {
			b.feed(more)
			b.drain()
		}
		b.closing()
		c := newBoth(t)
		c.feed(s)
		c.closing()
	}
	b := newBoth(t)
	b.feed("\x06\x00")
	b.close()
	b.drain()
	if b.m.wrong != api.ErrShort || b.l.Held() != 2 {
		t.Errorf("%v, %d; want %v, 2", b.m.wrong, b.l.Held(), api.ErrShort)
	}
}

// 31.1, 31.2: behind an End nothing else is read; bytes are held, and are wrong as soon as it is asked.
func TestEnd(t *testing.T) {
	for _, s := range []string{"", "\x06\x00\x00", "\x00", "\x01"} {
		b := newBoth(t)
		b.feed(bytesOf(hits(1), end(1, 1)) + s)
		b.next()
		b.next()
		if !b.l.Ended() {
			t.Fatal("Ended(): false; want true")
		}
		b.feed("")
		b.drain()
		b.feed("\x04")
		b.feed("\x00")
		b.drain()
		b.closing()
		c := newBoth(t)
		c.feed(bytesOf(end(most, most)) + s)
		c.close()
		c.drain()
		c.closing()
	}
}

// 31.1, 31.2: a nil lens, whatever is asked of it.
func TestNil(t *testing.T) {
	var l *lens.Lens
	for range 2 {
		for _, s := range []string{"", "\x04\x00", "\x06\x00\x00", "\x00"} {
			if e := l.Feed(s); e != api.ErrNil {
				t.Errorf("Feed(%x): %v; want %v", s, e, api.ErrNil)
			}
			if r, ok, e := l.Next(); !same(r, api.Record{}) || ok || e != api.ErrNil {
				t.Errorf("Next(): %+v, %v, %v; want %v", r, ok, e, api.ErrNil)
			}
			if l.Ended() || l.Held() != 0 {
				t.Errorf("%v, %d; want false, 0", l.Ended(), l.Held())
			}
		}
		l.Close()
	}
}

// 31.2: lists of Ids of many lengths, in parts; each error of the last Id.
func TestIds(t *testing.T) {
	for _, n := range []int{1, 2, 3, 127, 128, 129, 300, 1000} {
		for _, step := range []int{1, 65} {
			s := bytesOf(skip(1, 1), hits(rising(7, n, step)...), miss(1, 1), end(2, n))
			checkParts(t, s)
			checkParts(t, s[:len(s)-7])
			checkParts(t, s[:len(s)-7]+"\x00\x01")
		}
	}
	for _, l := range [][]int{rising(0, 65535, 1), rising(0, 32767, 2), rising(1, 511, 128), {lastId}, {0, lastId}} {
		s := bytesOf(hits(l...), hits(l...), end(2, 2*len(l)))
		checkAll(t, s, list(hits(l...), hits(l...), end(2, 2*len(l))), api.OK)
		for _, size := range []int{1 << 10, 4099, 1 << 16} {
			parts(t, s, size, true).closing()
		}
	}
}

// many is many records of all kinds, of which no two are put together.
func many(n int) []api.Record {
	var l []api.Record
	for i := range n {
		switch i % 7 {
		case 0:
			l = append(l, miss(i+1, i%3+1))
		case 1:
			l = append(l, skip(i%200+1, i))
		case 2, 3:
			l = append(l, hits(i%60000, i%60000+i%5+1))
		case 4:
			l = append(l, check(i, i))
		case 5:
			l = append(l, jump(2, 1))
		case 6:
			l = append(l, jump(3, most-i))
		}
	}
	return append(l, end(n, n))
}

// 31.4: many records, in parts of many sizes, each read as soon as it is there, or all at last; none is lost, and the time for them grows no faster than they do.
func TestMany(t *testing.T) {
	want := many(1 << 17)
	s := bytesOf(want...)
	checkAll(t, s, want, api.OK)
	for _, size := range []int{1, 5, 4096, len(s)} {
		for _, each := range []bool{true, false} {
			l := lens.New()
			var got []api.Record
			for i := 0; i < len(s); i += size {
				l.Feed(s[i:min(i+size, len(s))])
				for each {
					r, ok, _ := l.Next()
					if !ok {
						break
					}
					got = append(got, r)
				}
			}
			for {
				r, ok, e := l.Next()
				if !ok {
					if e != api.OK || l.Held() != 0 || !l.Ended() {
						t.Fatalf("parts of %d: %v, %d, %v", size, e, l.Held(), l.Ended())
					}
					break
				}
				got = append(got, r)
			}
			if !slices.EqualFunc(got, want, same) {
				t.Fatalf("parts of %d: %d records; want %d", size, len(got), len(want))
			}
		}
	}
}

// 31.2: a part comes with each record that is read of a long text, which is not copied for each of them.
func TestBetween(t *testing.T) {
	want := many(1 << 17)
	s := bytesOf(want...)
	before := allocated()
	l := lens.New()
	half := len(s) / 2
	l.Feed(s[:half])
	for i, w := range want {
		if half < len(s) {
			to := min(half+9, len(s))
			l.Feed(s[half:to])
			half = to
		}
		if r, ok, e := l.Next(); !same(r, w) || !ok || e != api.OK {
			t.Fatalf("record %d: %+v, %v, %v; want %+v", i, r, ok, e, w)
		}
	}
	if l.Held() != 0 || !l.Ended() {
		t.Errorf("%d, %v; want 0, true", l.Held(), l.Ended())
	}
	if more := allocated() - before; more > 1<<27 {
		t.Errorf("%d bytes of memory for %d", more, len(s))
	}
}

// allocated is how many bytes of memory were ever made.
func allocated() uint64 {
	var m runtime.MemStats
	runtime.ReadMemStats(&m)
	return m.TotalAlloc
}

// through is all evidence of a stream, one by one, with Checks between, and an End.
func through(t *testing.T, x *pats.Set, s string, skips bool) []api.Record {
	t.Helper()
	l := leap.New(x, skips)
	k, e := carry.New(l.Keep())
	if e != api.OK {
		t.Fatal(e)
	}
	k.Add(s)
	rs, at := l.Run(k, 0)
	if r, ok := l.Last(k, at); ok {
		rs = append(rs, r)
	}
	named := 0
	var out []api.Record
	for i, r := range rs {
		out = append(out, r)
		named += len(r.Ids)
		if i%3 == 2 {
			out = append(out, check(i, named))
		}
	}
	return append(out, end(len(s), named))
}

// 31.4: what a pen writes of the evidence of streams is read as it was put together, and is, written again, the same bytes.
func TestEvidence(t *testing.T) {
	for _, l := range [][]string{{"abc", "bc"}, {"a"}, {"ab", "bab"}, {"aaaa"}, {"b", "ab", "aab"}} {
		x, e := pats.New(l)
		if e != api.OK {
			t.Fatal(e)
		}
		file := book.Put(x)
		for _, s := range []string{"", "a", "xabcx", strings.Repeat("x", 999), "aaaaaaaaaaa", "abababbabcabcxxxxxxxxabc", "baabaaab"} {
			for _, skips := range []bool{true, false} {
				rs := through(t, x, s, skips)
				cert, e := pen.Whole(file, rs)
				if e != api.OK {
					t.Fatal(e)
				}
				_, size, e := head.Take(cert)
				if e != api.OK {
					t.Fatal(e)
				}
				checkAll(t, cert[size:], merge.All(rs), api.OK)
				checkParts(t, cert[size:])
				if n := rs[len(rs)-1].R; n != len(occ.All(x, s)) {
					t.Errorf("%d hits; want %d", n, len(occ.All(x, s)))
				}
			}
		}
	}
}

// 31.4: whatever bytes are read to their end, a pen writes the same of what was read.
func TestWrittenAgain(t *testing.T) {
	top := "cert\x01\x01\x02ab"
	n := 0
	again := func(s string) {
		rs, e := lens.All(s)
		if e != api.OK {
			return
		}
		n++
		if cert, e := pen.Whole("ab", rs); cert != top+s || e != api.OK {
			t.Fatalf("%x: written again %x, %v", s, cert, e)
		}
	}
	var some []string
	for _, r := range good() {
		some = append(some, bytesOf(r))
	}
	texts(some, 4, again)
	texts([]string{"\x00", "\x01", "\x04", "\x05", "\x06", "\x80"}, 7, again)
	again(bytesOf(many(5000)...))
	if n < 10000 {
		t.Errorf("%d texts were read; want more", n)
	}
}

// R4: a record that is told shares its Ids with nothing.
func TestApart(t *testing.T) {
	l := lens.New()
	l.Feed(bytesOf(hits(1, 2), hits(1, 2), hits(1, 2), end(0, 0)))
	a, _, _ := l.Next()
	b, _, _ := l.Next()
	a.Ids[0], a.Ids[1] = 5, 6
	_ = append(a.Ids, 7)
	c, _, _ := l.Next()
	if !slices.Equal(b.Ids, []int{1, 2}) || !slices.Equal(c.Ids, []int{1, 2}) {
		t.Errorf("%v, %v; want 1 2 of both", b.Ids, c.Ids)
	}
	s := bytesOf(hits(1, 2), hits(3), hits(1, 2), end(0, 0))
	x, _ := lens.All(s)
	y, _ := lens.All(s)
	x[0].Ids[0], x[2], x[3] = 9, x[1], x[1]
	_ = append(x[0].Ids, 8)
	if !slices.Equal(x[1].Ids, []int{3}) {
		t.Errorf("%v; want 3", x[1].Ids)
	}
	if !slices.EqualFunc(y, list(hits(1, 2), hits(3), hits(1, 2), end(0, 0)), same) {
		t.Errorf("%+v; want it as it was", y)
	}
	checkAll(t, s, y, api.OK)
}

// R4: the fields that a record does not use are zero, and so is what is told beside false.
func TestFields(t *testing.T) {
	l := lens.New()
	l.Feed("\x04\x00\x01\x01\x01\x06\x00\x00\x01")
	for _, w := range list(hits(), skip(1, 1), end(0, 0), api.Record{}, api.Record{}) {
		if r, _, _ := l.Next(); !same(r, w) || len(r.Ids) != 0 {
			t.Errorf("Next(): %+v; want %+v", r, w)
		}
	}
}

// R5: the same again; lenses know nothing of each other.
func TestAgain(t *testing.T) {
	a, b := newBoth(t), newBoth(t)
	for range 3 {
		checkAll(t, "\x01\x02\x02\x06\x04\x00", list(skip(2, 2), end(4, 0)), api.OK)
		checkAll(t, "\x01\x02\x02\x06\x04", nil, api.ErrShort)
		checkAll(t, "\x05\x00\x00", nil, api.ErrOrder)
	}
	a.feed("\x04\x00\x05")
	b.feed("\x05\x00\x00")
	a.drain()
	b.drain()
	a.feed("\x00\x00\x06")
	b.feed("\x04\x00")
	b.close()
	a.drain()
	b.drain()
	a.feed("\x00\x00")
	a.drain()
	a.closing()
	if a.m.wrong != api.OK || !a.l.Ended() || b.m.wrong != api.ErrOrder || b.l.Ended() {
		t.Errorf("%v, %v, %v, %v", a.m.wrong, a.l.Ended(), b.m.wrong, b.l.Ended())
	}
}

// inUse is how many bytes of memory are kept by somebody.
func inUse() int {
	var m runtime.MemStats
	for range 3 {
		runtime.GC()
	}
	runtime.ReadMemStats(&m)
	return int(m.HeapAlloc)
}

// R4: parts that come are not kept themselves.
func TestKept(t *testing.T) {
	// Bytes that are few may lie in one piece of memory with others.
	for _, s := range []string{"\x01\x02", "\x04\x00\x01", strings.Repeat("\x04\x00", 99) + "\x05", "\x00"} {
		part := append(make([]byte, 0, 999), s...)
		kept := weak.Make(&part[0])
		l := lens.New()
		l.Feed(unsafe.String(&part[0], len(part)))
		part[len(part)-1] = 7
		for range 100 {
			l.Next()
		}
		l.Feed("\x01")
		part = nil
		for range 5 {
			runtime.GC()
		}
		if kept.Value() != nil {
			t.Errorf("%.9x: what was handed in is kept", s)
		}
		runtime.KeepAlive(l)
	}
}

// R4: who changes bytes that were handed in changes nothing that is read.
func TestHandedIn(t *testing.T) {
	part := []byte("\x01\x02\x02\x06\x04\x00")
	l := lens.New()
	l.Feed(unsafe.String(&part[0], len(part)))
	part[1], part[3] = 9, 0
	for _, w := range list(skip(2, 2), end(4, 0)) {
		if r, ok, e := l.Next(); !same(r, w) || !ok || e != api.OK {
			t.Errorf("Next(): %+v, %v, %v; want %+v", r, ok, e, w)
		}
	}
}

// checkLittle asks that little more memory is in use.
func checkLittle(t *testing.T, l *lens.Lens, before int, what string) {
	t.Helper()
	if more := inUse() - before; more > 1<<16 {
		t.Errorf("%s: %d bytes more are in use", what, more)
	}
	runtime.KeepAlive(l)
}

// T7: of what was read nothing is kept, nor of what nobody reads any more but how much it is.
func TestLittle(t *testing.T) {
	long := strings.Repeat("\x04\x00\x01\x02\x03", 1<<20)
	before := inUse()
	l := lens.New()
	for range 4 {
		l.Feed(long)
		l.Feed("\x04\x02\x03")
		for range 2 << 20 {
			l.Next()
		}
		l.Next()
		checkLittle(t, l, before, "a record waits")
		l.Feed("\x01")
		l.Next()
	}
	checkLittle(t, l, before, "all is read")
	l.Feed(bytesOf(hits(rising(0, 65535, 1)...)))
	l.Next()
	l.Next()
	checkLittle(t, l, before, "many Ids")
	l.Feed("\x06\x00\x00" + long)
	l.Next()
	checkLittle(t, l, before, "behind an End")
	l.Feed(long)
	checkLittle(t, l, before, "behind an End, more")
	l.Next()
	l.Feed(long)
	checkLittle(t, l, before, "wrong")
	if n := l.Held(); n != 3*len(long) {
		t.Errorf("Held(): %d; want %d", n, 3*len(long))
	}
	for _, last := range []string{"\x06\x00\x00", "\x00"} {
		w := lens.New()
		w.Feed("\x04\x00" + last)
		w.Next()
		w.Feed(long)
		w.Next()
		checkLittle(t, w, before, "a part waits")
		if n := w.Held(); n < len(long) || n > len(long)+1 {
			t.Errorf("Held(): %d; want about %d", n, len(long))
		}
	}
	w := lens.New()
	w.Feed("\x00" + long)
	w.Next()
	checkLittle(t, w, before, "none")
	w.Feed(long)
	checkLittle(t, w, before, "none, more")
	if n := w.Held(); n != 2*len(long)+1 {
		t.Errorf("Held(): %d; want %d", n, 2*len(long)+1)
	}
	runtime.KeepAlive(l)
}
