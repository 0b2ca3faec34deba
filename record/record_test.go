package record_test

import (
	"fmt"
	"math"
	"runtime"
	"slices"
	"strings"
	"testing"

	"jurat/api"
	"jurat/carry"
	"jurat/leap"
	"jurat/merge"
	"jurat/pats"
	"jurat/record"
)

const (
	// most is the greatest offset, 2^62 - 1, as chapter 3 writes it.
	most = 1<<62 - 1
	// lastId is the greatest Id that may be written.
	lastId = 65534
)

func skip(n, r int) api.Record   { return api.Record{Kind: 1, N: n, R: r} }
func jump(n, r int) api.Record   { return api.Record{Kind: 2, N: n, R: r} }
func miss(n, r int) api.Record   { return api.Record{Kind: 3, N: n, R: r} }
func hits(ids ...int) api.Record { return api.Record{Kind: 4, Ids: ids} }
func check(n, r int) api.Record  { return api.Record{Kind: 5, N: n, R: r} }
func end(n, r int) api.Record    { return api.Record{Kind: 6, N: n, R: r} }

// same is whether two records are, of which lists nil and empty ones are the same.
func same(a, b api.Record) bool {
	return a.Kind == b.Kind && a.N == b.N && a.R == b.R && slices.Equal(a.Ids, b.Ids)
}

// short is how anything looks, as far as it is short.
func short(v any) string {
	s := fmt.Sprintf("%+v", v)
	return s[:min(len(s), 200)]
}

// kinds is the kinds of records, such as are none, and such as are one in fewer bits.
func kinds() []int {
	l := []int{math.MinInt, math.MaxInt, 1<<8 + 1, 1<<8 + 4, 1<<16 + 3, 1<<32 + 5, 1 - 1<<32, 4 - 1<<8, 255, 256}
	for n := -6; n <= 8; n++ {
		l = append(l, n)
	}
	return l
}

// numbers is small ones, those beside the edges of bytes and of offsets, such as are small in fewer bits, and as many below 0.
func numbers() []int {
	l := []int{math.MinInt, math.MinInt + 1, math.MaxInt - 1, math.MaxInt, 300}
	for d := range 3 {
		l = append(l, d, -d, most-d, most+d, -most-d, -most+d)
	}
	for _, n := range []int{1 << 7, 1 << 14, 1 << 16, 1 << 21, 1 << 32, 1 << 49, 1 << 56} {
		l = append(l, n-1, n, n+1)
	}
	return l
}

// idLists is lists of Ids that rise, and of such as do not, or are no pattern's.
func idLists() [][]int {
	l := [][]int{
		nil, {}, {0, 1}, {3, 7}, {1, 3, 1000, lastId}, {0, 127, 255, 383}, {0, 128, 257, 16640, 16641, 33025},
		{1, 0}, {7, 3}, {0, 0}, {3, 3}, {3, 4, 4}, {3, 3, 4}, {4, 4, 4}, {3, 5, 4}, {5, 3, 4}, {3, 4, 2}, {1, 2, 1},
		{0, lastId}, {lastId - 1, lastId}, {lastId, lastId}, {0, lastId + 1}, {lastId, lastId + 1}, {0, lastId + 1, 1}, {lastId, 0},
		{-1, 0}, {0, -1}, {-2, -1}, {-1, -2}, {1, -1, 2}, {math.MinInt, math.MaxInt}, {math.MaxInt, math.MinInt}, {0, math.MaxInt}, {0, math.MinInt},
		{1, 1<<16 + 2}, {1, 1<<32 + 2}, {1<<32 + 1, 2}, {1, 2 - 1<<32}, {1 - 1<<16, 2},
	}
	for _, n := range append(numbers(), lastId-1, lastId, lastId+1) {
		l = append(l, []int{n})
	}
	return l
}

// number is a number's bytes, lowest digit first, a power of 128 each.
func number(n uint64) string {
	if n < 128 {
		return string([]byte{byte(n)})
	}
	return string([]byte{byte(n%128 + 128)}) + number(n/128)
}

// file is a kind, and numbers' bytes behind it.
func file(kind byte, l ...uint64) string {
	var b strings.Builder
	b.WriteByte(kind)
	for _, n := range l {
		b.WriteString(number(n))
	}
	return b.String()
}

// The answers as the chapter words them.

// wantCheck is whether a record may be written.
func wantCheck(r api.Record) bool {
	least := 1
	switch r.Kind {
	case 1, 2, 3:
	case 4:
		for i, id := range r.Ids {
			if id < 0 || id > lastId || i > 0 && r.Ids[i-1] >= id {
				return false
			}
		}
		return r.N == 0 && r.R == 0
	case 5, 6:
		least = 0
	default:
		return false
	}
	return r.N >= least && r.N <= most && r.R >= least && r.R <= most && len(r.Ids) == 0
}

// wantPut is the bytes of a record that may be written.
func wantPut(r api.Record) string {
	if r.Kind != 4 {
		return file(byte(r.Kind), uint64(r.N), uint64(r.R))
	}
	l := []uint64{uint64(len(r.Ids))}
	for i, id := range r.Ids {
		if i > 0 {
			id -= r.Ids[i-1]
		}
		l = append(l, uint64(id))
	}
	return file(4, l...)
}

// takeNumber is the number with which bytes begin, and what stands behind it, as chapter 2 words it.
func takeNumber(s string) (uint64, string, api.Errno) {
	var n uint64
	for i := range min(len(s), 9) {
		n += uint64(s[i]%128) << (7 * i)
		switch {
		case s[i] >= 128:
			continue
		case s[i] == 0 && i > 0:
			return 0, "", api.ErrForm
		}
		return n, s[i+1:], api.OK
	}
	if len(s) >= 9 {
		return 0, "", api.ErrLong
	}
	return 0, "", api.ErrShort
}

// takeOffset is an N or an R, and what stands behind it.
func takeOffset(s string, kind byte) (int, string, api.Errno) {
	n, s, e := takeNumber(s)
	switch {
	case e != api.OK:
		return 0, "", e
	case n > most, n == 0 && kind <= 3:
		return 0, "", api.ErrRange
	}
	return int(n), s, api.OK
}

// takeIds is the Ids of an At, and what stands behind them.
func takeIds(s string) ([]int, string, api.Errno) {
	count, s, e := takeNumber(s)
	switch {
	case e != api.OK:
		return nil, "", e
	case count > 65535:
		return nil, "", api.ErrMany
	}
	var ids []int
	var id uint64
	for i := range count {
		var n uint64
		n, s, e = takeNumber(s)
		// Both have at most 63 bits.
		id += n
		switch {
		case e != api.OK:
			return nil, "", e
		case n == 0 && i > 0:
			return nil, "", api.ErrOrder
		case id > lastId:
			return nil, "", api.ErrRange
		}
		ids = append(ids, int(id))
	}
	return ids, s, api.OK
}

// wantTake is what Take is to answer, as the chapter words it.
func wantTake(s string) (api.Record, int, api.Errno) {
	if s == "" {
		return api.Record{}, 0, api.ErrShort
	}
	r, e := api.Record{Kind: int(s[0])}, api.OK
	left := s[1:]
	switch s[0] {
	case 1, 2, 3, 5, 6:
		r.N, left, e = takeOffset(left, s[0])
		if e == api.OK {
			r.R, left, e = takeOffset(left, s[0])
		}
	case 4:
		r.Ids, left, e = takeIds(left)
	default:
		e = api.ErrForm
	}
	if e != api.OK {
		return api.Record{}, 0, e
	}
	return r, len(s) - len(left), api.OK
}

// checkAnswer asks for a record, how many bytes it has, and an error.
func checkAnswer(t *testing.T, s string, want api.Record, size int, e api.Errno) {
	t.Helper()
	if r, n, o := record.Take(s); !same(r, want) || n != size || o != e {
		t.Errorf("Take of %d bytes %.60x: %s, %d, %v; want %s, %d, %v", len(s), s, short(r), n, o, short(want), size, e)
	}
}

// checkTake asks for what any bytes begin with, which are those that are put of it.
func checkTake(t *testing.T, s string) {
	t.Helper()
	r, size, e := wantTake(s)
	checkAnswer(t, s, r, size, e)
	if e == api.OK {
		checkBytes(t, r, s[:size])
	}
}

// checkBytes asks for the bytes of a record that may be written.
func checkBytes(t *testing.T, r api.Record, want string) {
	t.Helper()
	if !record.Check(r) {
		t.Errorf("Check(%s): false; want true", short(r))
	}
	if s, e := record.Put(r); s != want || e != api.OK {
		t.Errorf("Put(%s): %d bytes %.60x, %v; want %d: %.60x", short(r), len(s), s, e, len(want), want)
	}
}

// checkNone asks whether a record may not be written.
func checkNone(t *testing.T, r api.Record) {
	t.Helper()
	if record.Check(r) {
		t.Errorf("Check(%s): true; want false", short(r))
	}
	if s, e := record.Put(r); s != "" || e != api.ErrArg {
		t.Errorf("Put(%s): %.60x, %v; want nothing, %v", short(r), s, e, api.ErrArg)
	}
}

// checkRecord asks of any record all that 28.1 and 28.3 tell, and of a short one's bytes that are cut off anywhere.
func checkRecord(t *testing.T, r api.Record) {
	t.Helper()
	if !wantCheck(r) {
		checkNone(t, r)
		return
	}
	s := wantPut(r)
	checkBytes(t, r, s)
	for _, behind := range []string{"", "\x00", "\x01", "\x7f", "\x80", "\xff\xff\xff\xff\xff\xff\xff\xff\xff\xff", s} {
		checkAnswer(t, s+behind, r, len(s), api.OK)
	}
	for i := range min(len(s), 99) {
		checkAnswer(t, s[:i], api.Record{}, 0, api.ErrShort)
	}
}

// 28.1, 28.2: the chapter's examples.
func TestExamples(t *testing.T) {
	checkBytes(t, skip(300, 2), "\x01\xac\x02\x02")
	checkAnswer(t, "\x01\xac\x02\x02", skip(300, 2), 4, api.OK)
	checkBytes(t, hits(3, 7), "\x04\x02\x03\x04")
	checkAnswer(t, "\x04\x02\x03\x04", hits(3, 7), 4, api.OK)
}

// 28.1: which records may be written, one field at a time at its edges.
func TestCheck(t *testing.T) {
	for _, r := range []api.Record{
		skip(1, 1), jump(1, 1), miss(1, 1), skip(most, most), jump(most, most), miss(most, most),
		hits(), hits(0), hits(lastId), hits(0, 1), hits(0, lastId), hits(3, 4, 5),
		check(0, 0), end(0, 0), check(most, most), end(most, most), check(0, 1), end(1, 0),
	} {
		checkRecord(t, r)
		if !record.Check(r) {
			t.Errorf("Check(%+v): false; want true", r)
		}
		r.Ids = append([]int{}, r.Ids...)
		checkRecord(t, r)
	}
	for _, r := range []api.Record{
		{}, {N: 1, R: 1}, {Kind: 7, N: 1, R: 1}, {Kind: -1, N: 1, R: 1}, {Kind: 257, N: 1, R: 1},
		skip(0, 1), jump(0, 1), miss(0, 1), skip(1, 0), jump(1, 0), miss(1, 0), skip(-1, 1), jump(1, -1), miss(-1, -1),
		skip(most+1, 1), jump(1, most+1), miss(math.MaxInt, 1), skip(math.MinInt, 1),
		{Kind: 1, N: 1, R: 1, Ids: []int{0}}, {Kind: 2, N: 1, R: 1, Ids: []int{0}}, {Kind: 3, N: 1, R: 1, Ids: []int{0}},
		{Kind: 4, N: 1}, {Kind: 4, R: 1}, {Kind: 4, N: -1}, {Kind: 4, R: -1, Ids: []int{1}}, {Kind: 4, N: 1, R: 1, Ids: []int{1}},
		hits(-1), hits(lastId + 1), hits(0, 0), hits(1, 0), hits(0, lastId+1), hits(-1, 0), hits(1, 2, 2), hits(1, 1, 2),
		check(-1, 0), end(0, -1), check(most+1, 0), end(0, most+1), check(math.MinInt, 0), end(0, math.MaxInt),
		{Kind: 5, Ids: []int{0}}, {Kind: 6, Ids: []int{0}}, {Kind: 5, N: 1, R: 1, Ids: []int{1, 2}},
	} {
		checkNone(t, r)
	}
}

// 28.1, 28.3: records of all kinds, and of none, with all Ns and Rs.
func TestNumbers(t *testing.T) {
	for _, kind := range kinds() {
		for _, n := range numbers() {
			for _, r := range numbers() {
				for _, ids := range [][]int{nil, {}, {0}, {3, 7}} {
					checkRecord(t, api.Record{Kind: kind, N: n, R: r, Ids: ids})
				}
			}
		}
	}
}

// 28.1, 28.3: records of all kinds, and of none, with all lists of Ids.
func TestIds(t *testing.T) {
	for _, kind := range kinds() {
		for _, ids := range idLists() {
			for _, n := range []int{0, 1, 2} {
				for _, r := range []int{0, 1, -1} {
					checkRecord(t, api.Record{Kind: kind, N: n, R: r, Ids: ids})
				}
			}
		}
	}
}

// 28.1, 28.3: all short lists of few Ids.
func TestFewIds(t *testing.T) {
	few := []int{-1, 0, 1, 2, 128, 129, lastId, lastId + 1}
	var grow func(ids []int)
	grow = func(ids []int) {
		checkRecord(t, hits(ids...))
		if len(ids) == 5 {
			return
		}
		for _, id := range few {
			grow(append(slices.Clone(ids), id))
		}
	}
	grow(nil)
}

// 28.1, 28.2: a long list in which one place is wrong, wherever it is.
func TestOnePlace(t *testing.T) {
	var ids []int
	var told []uint64
	for i := range 200 {
		ids = append(ids, 130*i+2)
		told = append(told, 130)
	}
	told[0] = 2
	for i := range ids {
		other := slices.Clone(ids)
		checkRecord(t, hits(other...))
		for _, id := range []int{-1, math.MinInt, math.MaxInt, lastId + 1, ids[max(i-1, 0)], ids[min(i+1, 199)]} {
			other[i] = id
			checkRecord(t, hits(other...))
		}
		steps := append([]uint64{200}, told...)
		s := file(4, steps...)
		checkAnswer(t, s, hits(ids...), len(s), api.OK)
		for _, n := range []uint64{0, lastId + 1, 1 << 32, 1<<63 - 1} {
			steps[1+i] = n
			want := api.ErrRange
			if n == 0 {
				want = api.ErrOrder
			}
			if n == 0 && i == 0 {
				want = api.OK
			}
			checkTake(t, file(4, steps...))
			if _, _, e := record.Take(file(4, steps...)); e != want {
				t.Errorf("%d told of the Id %d: %v; want %v", n, i, e, want)
			}
		}
	}
}

// tooLong is the beginning of what no number is.
const tooLong = "\x80\x80\x80\x80\x80\x80\x80\x80\x80"

// 28.2: each error alone, and which of several is told.
func TestErrors(t *testing.T) {
	for _, q := range []struct {
		s string
		e api.Errno
	}{
		{"", api.ErrShort},
		{"\x00", api.ErrForm}, {"\x07", api.ErrForm}, {"\x08", api.ErrForm}, {"\x7f", api.ErrForm}, {"\x81", api.ErrForm}, {"\xff", api.ErrForm},
		{"\x00\x01\x01", api.ErrForm}, {"\x07\x00\x00", api.ErrForm}, {"\x00" + tooLong, api.ErrForm},
		{"\x01", api.ErrShort}, {"\x02", api.ErrShort}, {"\x03", api.ErrShort}, {"\x04", api.ErrShort}, {"\x05", api.ErrShort}, {"\x06", api.ErrShort},
		{"\x01\x80", api.ErrShort}, {"\x01\x01", api.ErrShort}, {"\x01\x01\x80", api.ErrShort}, {"\x06\x00", api.ErrShort}, {"\x05\x00\x80", api.ErrShort},
		{"\x01\x80\x00", api.ErrForm}, {"\x01\x80\x00\x00", api.ErrForm}, {"\x01\x01\x80\x00", api.ErrForm}, {"\x06\x00\x80\x00", api.ErrForm}, {"\x04\x80\x00", api.ErrForm}, {"\x04\x01\x80\x00", api.ErrForm},
		{"\x01" + tooLong, api.ErrLong}, {"\x01\x01" + tooLong, api.ErrLong}, {"\x04" + tooLong, api.ErrLong}, {"\x04\x01" + tooLong, api.ErrLong}, {"\x01" + tooLong[1:], api.ErrShort},
		{"\x01\x00", api.ErrRange}, {"\x02\x00\x01", api.ErrRange}, {"\x03\x00\x80\x00", api.ErrRange}, {"\x01\x00" + tooLong, api.ErrRange}, {"\x01\x00\x00", api.ErrRange},
		{"\x01\x01\x00", api.ErrRange}, {"\x02\x01\x00", api.ErrRange}, {"\x03\x01\x00", api.ErrRange},
		{file(1, 1<<62), api.ErrRange}, {file(5, 1<<62), api.ErrRange}, {file(6, 1<<63-1), api.ErrRange}, {file(6, 0, 1<<62), api.ErrRange}, {file(3, 1, 1<<62), api.ErrRange}, {file(3, 1, 1<<63-1), api.ErrRange},
		{file(6, 1<<62, 0), api.ErrRange}, {file(2, most, 1<<62), api.ErrRange}, {file(5, most), api.ErrShort},
		{file(4, 65536), api.ErrMany}, {file(4, 65536, 1, 1), api.ErrMany}, {file(4, 1<<63-1), api.ErrMany}, {file(4, 1<<32), api.ErrMany}, {file(4, 65536, 65536), api.ErrMany},
		{file(4, 65535), api.ErrShort}, {file(4, 1), api.ErrShort}, {file(4, 2, 7), api.ErrShort}, {file(4, 2, 0), api.ErrShort},
		{file(4, 2, 0, 0), api.ErrOrder}, {file(4, 2, 7, 0), api.ErrOrder}, {file(4, 3, 7, 0), api.ErrOrder}, {file(4, 3, 7, 1, 0), api.ErrOrder}, {file(4, 3, 7, 0, 1<<32), api.ErrOrder}, {file(4, 2, lastId, 0), api.ErrOrder},
		{file(4, 1, 65535), api.ErrRange}, {file(4, 1, 1<<62), api.ErrRange}, {file(4, 1, 1<<63-1), api.ErrRange}, {file(4, 2, 65535, 0), api.ErrRange}, {file(4, 2, 65535), api.ErrRange},
		{file(4, 2, lastId, 1), api.ErrRange}, {file(4, 2, 0, 65535), api.ErrRange}, {file(4, 2, 1, lastId), api.ErrRange}, {file(4, 2, 1, 1<<63-1), api.ErrRange}, {file(4, 2, lastId, 1<<63-1), api.ErrRange}, {file(4, 3, 1, 1<<63-1, 0), api.ErrRange},
		{file(4, 9, 1, 1<<16-1), api.ErrRange}, {file(4, 2, 1, 1<<16), api.ErrRange}, {file(4, 2, 1, 1<<32), api.ErrRange},
	} {
		checkAnswer(t, q.s, api.Record{}, 0, q.e)
		checkTake(t, q.s)
	}
}

// 28.2: records of the least and the greatest numbers, and what stands behind them.
func TestEdges(t *testing.T) {
	for _, q := range []struct {
		s    string
		want api.Record
		size int
	}{
		{"\x01\x01\x01", skip(1, 1), 3}, {"\x02\x01\x01\x00", jump(1, 1), 3}, {"\x03\x01\x01\x80", miss(1, 1), 3},
		{"\x05\x00\x00", check(0, 0), 3}, {"\x06\x00\x00", end(0, 0), 3}, {"\x06\x04\x00", end(4, 0), 3}, {"\x05\x00\x04\x07", check(0, 4), 3},
		{"\x04\x00", hits(), 2}, {"\x04\x00\x00", hits(), 2}, {"\x04\x01\x00", hits(0), 3}, {"\x04\x01\x00\x00", hits(0), 3}, {"\x04\x02\x00\x01", hits(0, 1), 4},
		{file(4, 1, lastId), hits(lastId), 5}, {file(4, 2, 0, lastId), hits(0, lastId), 6}, {file(4, 2, lastId-1, 1), hits(lastId-1, lastId), 6},
		{file(1, most, most), skip(most, most), 19}, {file(6, most, most) + tooLong, end(most, most), 19}, {file(5, 0, most), check(0, most), 11},
		{"\x02\x7f\x80\x01", jump(127, 128), 4},
	} {
		checkAnswer(t, q.s, q.want, q.size, api.OK)
		checkTake(t, q.s)
	}
}

// eachText calls f with all texts of at most so many bytes out of some.
func eachText(some string, most int, f func(string)) {
	var grow func([]byte)
	grow = func(b []byte) {
		f(string(b))
		if len(b) == most {
			return
		}
		for i := range len(some) {
			grow(append(b, some[i]))
		}
	}
	grow(make([]byte, 0, most))
}

// 28.2, 28.3: all short texts of the bytes of which records are made.
func TestShortTexts(t *testing.T) {
	eachText("\x00\x01\x02\x03\x04\x06\x7f\x80\xff", 6, func(s string) {
		checkTake(t, s)
		if t.Failed() {
			t.FailNow()
		}
	})
}

// 28.2: each byte as a kind, and as any other byte of a short record.
func TestEachByte(t *testing.T) {
	for a := range 256 {
		checkTake(t, string([]byte{byte(a)}))
		for b := range 256 {
			for _, behind := range []string{"", "\x00", "\x01", "\x01\x01", "\x80\x01\x01", tooLong} {
				checkTake(t, string([]byte{byte(a), byte(b)})+behind)
			}
			for kind := range 9 {
				checkTake(t, string([]byte{byte(kind), byte(a), byte(b)}))
				checkTake(t, string([]byte{byte(kind), 2, byte(a), byte(b)}))
				checkTake(t, string([]byte{byte(kind), 200, 1, byte(a), byte(b)}))
			}
		}
	}
}

// pieces is numbers' bytes, at all edges that there are, and such as are no number's.
func pieces() []string {
	l := []string{"", "\x80", "\x80\x00", "\xff\x00", "\x81\x80\x00", tooLong, tooLong[1:], tooLong[1:] + "\x00", tooLong[1:] + "\x40", strings.Repeat("\xff", 9), strings.Repeat("\xff", 8) + "\x7f", tooLong + "\x01"}
	for _, n := range numbers() {
		if n >= 0 {
			l = append(l, number(uint64(n)))
		}
	}
	for n := range uint64(4) {
		l = append(l, number(lastId-2+n))
	}
	return l
}

// 28.2: all numbers, and bytes that are none's, at all places.
func TestPieces(t *testing.T) {
	l := pieces()
	for kind := range 8 {
		first := string([]byte{byte(kind)})
		for _, n := range l {
			for _, r := range l {
				checkTake(t, first+n+r)
				checkTake(t, first+n+r+"\x01")
				checkTake(t, first+"\x02"+n+r)
				checkTake(t, first+"\x03\x01"+n+r)
			}
		}
	}
}

// 28.2: what is wrong stays wrong, whatever stands behind it, but that there is too little.
func TestStays(t *testing.T) {
	eachText("\x00\x01\x02\x04\x80\xff", 4, func(s string) {
		_, _, e := record.Take(s)
		if e == api.OK || e == api.ErrShort {
			return
		}
		for _, behind := range []string{"\x00", "\x01", "\x80", tooLong, "\x01\x01\x01"} {
			checkAnswer(t, s+behind, api.Record{}, 0, e)
		}
	})
}

// rising is so many Ids, from one on.
func rising(from, many int) []int {
	ids := make([]int, many)
	for i := range ids {
		ids[i] = from + i
	}
	return ids
}

// 28.1, 28.2: as many Ids as there can be, and one more.
func TestMost(t *testing.T) {
	all := rising(0, api.MaxPatterns)
	r := hits(all...)
	checkRecord(t, r)
	s, e := record.Put(r)
	if len(s) != 1+3+65535 || e != api.OK {
		t.Errorf("%d bytes, %v; want %d", len(s), e, 1+3+65535)
	}
	for _, n := range []int{4, 5, 1000, 40000, len(s) - 1} {
		checkAnswer(t, s[:n], api.Record{}, 0, api.ErrShort)
	}
	checkNone(t, hits(rising(0, api.MaxPatterns+1)...))
	checkNone(t, hits(rising(1, api.MaxPatterns)...))
	checkNone(t, hits(rising(-1, api.MaxPatterns)...))
	checkRecord(t, hits(rising(1, api.MaxPatterns-1)...))
	checkTake(t, "\x04"+number(65535)+"\x01"+s[5:])
	checkTake(t, "\x04"+number(65536)+s[4:]+"\x01")
	checkTake(t, s[:len(s)-1]+"\x00")
	checkTake(t, s[:len(s)-1]+"\x02")
	other := slices.Clone(all)
	other[65000] = 64999
	checkNone(t, hits(other...))
}

// 28.3: unlike records have unlike bytes, and none begins with another one's.
func TestUnlike(t *testing.T) {
	l := []api.Record{hits(), hits(0), hits(1), hits(0, 1), hits(0, 2), hits(1, 2), hits(0, 1, 2), hits(128), hits(lastId)}
	for kind := 1; kind <= 6; kind++ {
		for _, n := range []int{0, 1, 2, 127, 128, 129, 300, most} {
			for _, r := range []int{0, 1, 2, 127, 128, most} {
				if one := (api.Record{Kind: kind, N: n, R: r}); kind != 4 && record.Check(one) {
					l = append(l, one)
				}
			}
		}
	}
	for i, a := range l {
		s, _ := record.Put(a)
		for k, b := range l {
			if p, _ := record.Put(b); strings.HasPrefix(p, s) != (i == k) {
				t.Errorf("%+v: %x; %+v: %x", a, s, b, p)
			}
		}
	}
}

// through is all evidence of a stream, like records put together.
func through(t *testing.T, x *pats.Set, s string, skips bool) []api.Record {
	t.Helper()
	l := leap.New(x, skips)
	k, e := carry.New(l.Keep())
	if e != api.OK {
		t.Fatal(e)
	}
	k.Add(s)
	rs, at := l.Run(k, 0)
	if r, ok := l.Last(k, at); ok {
		rs = append(rs, r)
	}
	return merge.All(rs)
}

// 28.1, 28.2: the evidence of streams may be written, and is taken, one record behind the other.
func TestEvidence(t *testing.T) {
	for _, l := range [][]string{{"abc", "bc"}, {"a"}, {"ab", "bab"}, {"aaaa"}, {"b", "ab", "aab"}} {
		x, e := pats.New(l)
		if e != api.OK {
			t.Fatal(e)
		}
		for _, s := range []string{"", "a", "xabcx", strings.Repeat("x", 999), "aaaaaaaaaaa", "abababbabcabcxxxxxxxxabc", "baabaaab"} {
			for _, skips := range []bool{true, false} {
				checkRow(t, append(through(t, x, s, skips), end(len(s), 0)))
			}
		}
	}
}

// checkRow asks for records of bytes that stand one behind the other.
func checkRow(t *testing.T, l []api.Record) {
	t.Helper()
	left := ""
	for _, r := range l {
		s, e := record.Put(r)
		if e != api.OK {
			t.Fatalf("Put(%+v): %v", r, e)
		}
		left += s
	}
	for _, want := range l {
		r, size, e := record.Take(left)
		if !same(r, want) || e != api.OK {
			t.Fatalf("Take(%x): %+v, %v; want %+v", left, r, e, want)
		}
		left = left[size:]
	}
	if left != "" {
		t.Errorf("%x is left of %+v", left, l)
	}
}

// R4: what is handed in stays as it was, and what lies behind a list's length is not read.
func TestHandedIn(t *testing.T) {
	room := []int{3, 7, 7, -8, -9}
	r := api.Record{Kind: api.At, Ids: room[:2]}
	checkBytes(t, r, "\x04\x02\x03\x04")
	none := api.Record{Kind: api.Skip, N: 1, R: 1, Ids: room[:0]}
	checkBytes(t, none, "\x01\x01\x01")
	checkBytes(t, api.Record{Kind: api.At, Ids: room[:0]}, "\x04\x00")
	checkNone(t, api.Record{Kind: api.At, Ids: room[:3]})
	if !slices.Equal(room, []int{3, 7, 7, -8, -9}) || !same(r, hits(3, 7)) || !same(none, skip(1, 1)) {
		t.Errorf("%v, %+v, %+v; want them as they were", room, r, none)
	}
}

// R4, R5: what is taken is new memory, and the same is taken again.
func TestApart(t *testing.T) {
	for _, many := range []int{0, 1, 2, 9, 9999} {
		want := hits(rising(5, many)...)
		s, _ := record.Put(want)
		a, _, _ := record.Take(s)
		b, _, _ := record.Take(s)
		ids := a.Ids[:cap(a.Ids)]
		for i := range ids {
			ids[i] = -7
		}
		if !same(b, want) {
			t.Errorf("writing into what was taken changed what was taken again: %s", short(b))
		}
		checkAnswer(t, s, want, len(s), api.OK)
	}
}

// R2: beside an error nothing is told, also of what was read ahead of it.
func TestNothingBeside(t *testing.T) {
	for _, s := range []string{"\x01\x05", "\x01\x05\x00", "\x06\x05\x80\x00", "\x04\x03\x01\x01", "\x04\x03\x01\x01\x00", "\x04\x02\x01" + tooLong, "\x07\x01\x01"} {
		r, size, e := record.Take(s)
		if r.Kind != 0 || r.N != 0 || r.R != 0 || r.Ids != nil || size != 0 || e == api.OK {
			t.Errorf("Take(%x): %+v, %d, %v; want the zero record, 0, and an error", s, r, size, e)
		}
	}
}

// R6: of a record that is taken the fields that its kind does not use are zero.
func TestFields(t *testing.T) {
	for kind := range byte(7) {
		r, _, e := record.Take(file(kind, 1, 2))
		switch {
		case kind == 0:
		case e != api.OK, kind == 4 && (r.N != 0 || r.R != 0), kind != 4 && len(r.Ids) != 0:
			t.Errorf("kind %d: %+v, %v", kind, r, e)
		}
	}
}

// allocated is how many bytes of memory were ever made.
func allocated() uint64 {
	var m runtime.MemStats
	runtime.ReadMemStats(&m)
	return m.TotalAlloc
}

// 28.2: few bytes that tell of many Ids take little memory, and so do few Ids with many bytes behind them.
func TestLittle(t *testing.T) {
	many, few := file(4, 65535, 1, 1, 1), file(4, 2, 3, 4)
	before := allocated()
	for range 1000 {
		checkAnswer(t, many, api.Record{}, 0, api.ErrShort)
	}
	if more := allocated() - before; more > 1<<22 {
		t.Errorf("%d bytes of memory for a thousand records that are cut off", more)
	}
	long := few + strings.Repeat("\x01", 1<<20)
	before = allocated()
	for range 1000 {
		checkAnswer(t, long, hits(3, 7), 4, api.OK)
	}
	if more := allocated() - before; more > 1<<22 {
		t.Errorf("%d bytes of memory for a thousand records of two Ids", more)
	}
}
