package merge_test

import (
	"fmt"
	"math"
	"math/big"
	"runtime"
	"slices"
	"testing"
	"weak"

	"jurat/api"
	"jurat/carry"
	"jurat/leap"
	"jurat/merge"
	"jurat/pats"
	"jurat/probe"
)

// most is the greatest offset, 2^62 - 1, as chapter 3 writes it.
const most = 1<<62 - 1

func skip(n, r int) api.Record          { return api.Record{Kind: api.Skip, N: n, R: r} }
func jump(n, r int) api.Record          { return api.Record{Kind: api.Leap, N: n, R: r} }
func miss(n, r int) api.Record          { return api.Record{Kind: api.Miss, N: n, R: r} }
func hits(ids ...int) api.Record        { return api.Record{Kind: api.At, Ids: ids} }
func check(n, r int) api.Record         { return api.Record{Kind: api.Check, N: n, R: r} }
func end(n, r int) api.Record           { return api.Record{Kind: api.End, N: n, R: r} }
func list(l ...api.Record) []api.Record { return l }

// with is a record with other Ids.
func with(r api.Record, ids ...int) api.Record {
	r.Ids = ids
	return r
}

// sameRecord is whether two records are, of which lists nil and empty ones are the same.
func sameRecord(a, b api.Record) bool {
	return a.Kind == b.Kind && a.N == b.N && a.R == b.R && slices.Equal(a.Ids, b.Ids)
}

// same is whether two lists of records are.
func same(a, b []api.Record) bool {
	return slices.EqualFunc(a, b, sameRecord)
}

// short is how anything looks, as far as it is short.
func short(v any) string {
	s := fmt.Sprintf("%+v", v)
	return s[:min(len(s), 300)]
}

// copied is records in new memory.
func copied(l []api.Record) []api.Record {
	l = slices.Clone(l)
	for i := range l {
		l[i].Ids = slices.Clone(l[i].Ids)
	}
	return l
}

// kinds is the kinds of records, such as are none, and such as are one in fewer bits.
func kinds() []int {
	l := []int{math.MinInt, 1 - 1<<32, math.MaxInt, 1<<32 + 1, 1<<8 + 1, 1<<16 + 3}
	for n := -2; n <= 8; n++ {
		l = append(l, n)
	}
	return l
}

// numbers is small ones, and those beside the greatest offset, beside its half and beside its root, and as many below 0.
func numbers() []int {
	l := []int{math.MinInt, math.MinInt + 1, math.MaxInt - 1, math.MaxInt}
	for n := range 5 {
		l = append(l, n, -n, most-n, most+n, -most-n, -most+n)
	}
	for _, n := range []int{1 << 31, 3037000500, most / 2, most / 3, most / 7} {
		for d := -2; d <= 2; d++ {
			l = append(l, n+d)
		}
	}
	return l
}

// repeats is whether R tells how often a record of a kind covers ends.
func repeats(kind int) bool {
	return kind == api.Skip || kind == api.Leap || kind == api.Miss
}

// The answers as the chapter words them, by the library's numbers.

func wantTwo(a, b api.Record) (api.Record, bool) {
	if !repeats(a.Kind) || a.Kind != b.Kind || a.N != b.N || len(a.Ids)+len(b.Ids) > 0 || a.R < 1 || b.R < 1 {
		return api.Record{}, false
	}
	// Where there is a bit more, two numbers from 1 on don't go round.
	if uint64(a.R)+uint64(b.R) > most {
		return api.Record{}, false
	}
	return api.Record{Kind: a.Kind, N: a.N, R: a.R + b.R}, true
}

// wantOnce is how many ends a record covers once.
func wantOnce(r api.Record) int {
	switch r.Kind {
	case api.Skip, api.Leap:
		if r.N > 0 {
			return r.N
		}
	case api.Miss, api.At:
		return 1
	}
	return 0
}

func wantCovers(r api.Record) (int, api.Errno) {
	once := wantOnce(r)
	if !repeats(r.Kind) {
		return once, api.OK
	}
	if once > most || r.R < 0 || r.R > most {
		return 0, api.ErrArg
	}
	n := big.NewInt(int64(once))
	if n.Mul(n, big.NewInt(int64(r.R))); n.BitLen() > 62 {
		return 0, api.ErrOver
	}
	return int(n.Int64()), api.OK
}

func wantFar(at int, l []api.Record) (int, api.Errno) {
	if at < 0 || at > most {
		return 0, api.ErrArg
	}
	for _, r := range l {
		n, e := wantCovers(r)
		if e != api.OK {
			return 0, e
		}
		// Neither has more than 62 bits.
		if at+n > most || at+n < 0 {
			return 0, api.ErrOver
		}
		at += n
	}
	return at, api.OK
}

// wantAll is records, each put together with the last one of those ahead of it, where that can be.
func wantAll(l []api.Record) []api.Record {
	var out []api.Record
	for _, r := range l {
		if n := len(out); n > 0 {
			if both, ok := wantTwo(out[n-1], r); ok {
				out[n-1] = both
				continue
			}
		}
		out = append(out, r)
	}
	return out
}

func wantCanon(l []api.Record) bool {
	for i := range l {
		if i == 0 {
			continue
		}
		if _, ok := wantTwo(l[i-1], l[i]); ok {
			return false
		}
	}
	return true
}

func checkTwo(t *testing.T, a, b, want api.Record, ok bool) {
	t.Helper()
	if r, o := merge.Two(a, b); !sameRecord(r, want) || o != ok {
		t.Errorf("Two(%+v, %+v): %+v, %v; want %+v, %v", a, b, r, o, want, ok)
	}
}

func checkCovers(t *testing.T, r api.Record, want int, e api.Errno) {
	t.Helper()
	if n, o := merge.Covers(r); n != want || o != e {
		t.Errorf("Covers(%s): %d, %v; want %d, %v", short(r), n, o, want, e)
	}
}

func checkFar(t *testing.T, at int, l []api.Record, want int, e api.Errno) {
	t.Helper()
	if n, o := merge.Far(at, l); n != want || o != e {
		t.Errorf("Far(%d, %s): %d, %v; want %d, %v", at, short(l), n, o, want, e)
	}
}

func checkAdd(t *testing.T, m *merge.Merger, r, want api.Record, ok bool) {
	t.Helper()
	if got, o := m.Add(r); !sameRecord(got, want) || o != ok {
		t.Errorf("Add(%s): %s, %v; want %s, %v", short(r), short(got), o, short(want), ok)
	}
}

func checkFlush(t *testing.T, m *merge.Merger, want api.Record, ok bool) {
	t.Helper()
	if got, o := m.Flush(); !sameRecord(got, want) || o != ok {
		t.Errorf("Flush(): %s, %v; want %s, %v", short(got), o, short(want), ok)
	}
}

func checkAll(t *testing.T, l, want []api.Record) {
	t.Helper()
	if got := merge.All(l); !same(got, want) {
		t.Errorf("All of %d records %s: %d records %s; want %d records %s", len(l), short(l), len(got), short(got), len(want), short(want))
	}
}

func checkCanon(t *testing.T, l []api.Record, want bool) {
	t.Helper()
	if got := merge.Canon(l); got != want {
		t.Errorf("Canon(%s): %v; want %v", short(l), got, want)
	}
}

// pool is records of which neighbours are put together, or differ in one thing alone.
func pool() []api.Record {
	return []api.Record{
		{}, skip(2, 1), skip(2, 3), skip(1, 1), skip(2, 0), skip(2, most-3), jump(2, 1), miss(2, 1), miss(2, most),
		hits(), hits(0), with(skip(2, 1), 0), check(2, 1), end(2, 1),
	}
}

// lists calls f with each list of so many records, at most, out of some.
func lists(some []api.Record, most int, f func([]api.Record)) {
	longer(nil, some, most, f)
}

// longer calls f with a list, and with all that begin with it.
func longer(l, some []api.Record, most int, f func([]api.Record)) {
	f(l)
	if len(l) == most {
		return
	}
	for _, r := range some {
		longer(append(slices.Clone(l), r), some, most, f)
	}
}

// 27.1 to 27.3: the chapter's example, and the like.
func TestExample(t *testing.T) {
	l := list(skip(2, 1), skip(2, 1), skip(1, 1))
	checkAll(t, l, list(skip(2, 2), skip(1, 1)))
	checkTwo(t, l[0], l[1], skip(2, 2), true)
	checkTwo(t, l[1], l[2], api.Record{}, false)
	checkCanon(t, l, false)
	checkCanon(t, list(skip(2, 2), skip(1, 1)), true)
	checkCovers(t, skip(2, 2), 4, api.OK)
	checkFar(t, 0, l, 5, api.OK)
	checkFar(t, 3, list(skip(2, 2), skip(1, 1)), 8, api.OK)
	var m merge.Merger
	checkAdd(t, &m, l[0], api.Record{}, false)
	checkAdd(t, &m, l[1], api.Record{}, false)
	checkAdd(t, &m, l[2], skip(2, 2), true)
	checkFlush(t, &m, skip(1, 1), true)
	checkFlush(t, &m, api.Record{}, false)
}

// 27.1: which are put together, and at which edges they are not.
func TestTwo(t *testing.T) {
	none := api.Record{}
	for _, q := range []struct {
		a, b, want api.Record
		ok         bool
	}{
		{skip(3, 1), skip(3, 1), skip(3, 2), true},
		{jump(3, 2), jump(3, 5), jump(3, 7), true},
		{miss(3, 5), miss(3, 2), miss(3, 7), true},
		{skip(0, 1), skip(0, 1), skip(0, 2), true},
		{miss(-4, 1), miss(-4, 1), miss(-4, 2), true},
		{jump(math.MinInt, 1), jump(math.MinInt, 1), jump(math.MinInt, 2), true},
		{skip(math.MaxInt, 1), skip(math.MaxInt, 1), skip(math.MaxInt, 2), true},
		{api.Record{Kind: api.Skip, N: 1, R: 1, Ids: []int{}}, skip(1, 1), skip(1, 2), true},
		{skip(1, 1), api.Record{Kind: api.Skip, N: 1, R: 1, Ids: make([]int, 0, 9)}, skip(1, 2), true},
		{skip(3, 1), jump(3, 1), none, false},
		{jump(3, 1), miss(3, 1), none, false},
		{miss(3, 1), skip(3, 1), none, false},
		{skip(3, 1), skip(4, 1), none, false},
		{miss(1, 1), miss(2, 1), none, false},
		{jump(1, 1), jump(-1, 1), none, false},
		{skip(3, 0), skip(3, 1), none, false},
		{skip(3, 1), skip(3, 0), none, false},
		{jump(3, -1), jump(3, 2), none, false},
		{jump(3, 2), jump(3, -1), none, false},
		{miss(3, math.MinInt), miss(3, math.MaxInt), none, false},
		{with(skip(3, 1), 0), skip(3, 1), none, false},
		{skip(3, 1), with(skip(3, 1), 0), none, false},
		{with(miss(3, 1), 1), with(miss(3, 1), 1), none, false},
		{skip(1, most-1), skip(1, 1), skip(1, most), true},
		{skip(1, 1), skip(1, most-1), skip(1, most), true},
		{miss(1, most/2), miss(1, most/2+1), miss(1, most), true},
		{skip(1, most), skip(1, 1), none, false},
		{skip(1, 1), skip(1, most), none, false},
		{miss(1, most/2+1), miss(1, most/2+1), none, false},
		{jump(1, most), jump(1, most), none, false},
		{jump(1, most+1), jump(1, 1), none, false},
		{jump(1, 1), jump(1, most+1), none, false},
		{jump(1, math.MaxInt), jump(1, math.MaxInt), none, false},
		{jump(1, math.MaxInt), jump(1, 1), none, false},
		{hits(), hits(), none, false},
		{hits(1), hits(1), none, false},
		{api.Record{Kind: api.At, N: 1, R: 1}, api.Record{Kind: api.At, N: 1, R: 1}, none, false},
		{check(1, 1), check(1, 1), none, false},
		{end(1, 1), end(1, 1), none, false},
		{none, none, none, false},
		{api.Record{N: 1, R: 1}, api.Record{N: 1, R: 1}, none, false},
		{api.Record{Kind: 7, N: 1, R: 1}, api.Record{Kind: 7, N: 1, R: 1}, none, false},
		{api.Record{Kind: -1, N: 1, R: 1}, api.Record{Kind: -1, N: 1, R: 1}, none, false},
	} {
		checkTwo(t, q.a, q.b, q.want, q.ok)
	}
}

// 27.1: all twos of records of many kinds, Ns, Rs and lists.
func TestAllTwos(t *testing.T) {
	var l []api.Record
	for _, kind := range kinds() {
		for _, n := range []int{math.MinInt, -1, 0, 1, 2, 1<<32 + 1, most, math.MaxInt} {
			for _, r := range []int{math.MinInt, -1, 0, 1, 2, most/2 + 1, most - 1, most, most + 1, math.MaxInt} {
				for _, ids := range [][]int{nil, {0}} {
					l = append(l, api.Record{Kind: kind, N: n, R: r, Ids: ids})
				}
			}
		}
	}
	for _, a := range l {
		for _, b := range l {
			r, ok := merge.Two(a, b)
			if want, is := wantTwo(a, b); ok != is || !sameRecord(r, want) {
				t.Fatalf("Two(%+v, %+v): %+v, %v; want %+v, %v", a, b, r, ok, want, is)
			}
		}
	}
}

// 27.1: how many ends a record covers, by its kind, and at which edges there is an error.
func TestCovers(t *testing.T) {
	for _, q := range []struct {
		r    api.Record
		want int
		e    api.Errno
	}{
		{skip(3, 4), 12, api.OK},
		{jump(5, 2), 10, api.OK},
		{miss(5, 2), 2, api.OK},
		{with(skip(3, 4), 1, 2), 12, api.OK},
		{skip(3, 0), 0, api.OK},
		{jump(0, 3), 0, api.OK},
		{miss(0, 3), 3, api.OK},
		{miss(math.MinInt, 3), 3, api.OK},
		{miss(math.MaxInt, 3), 3, api.OK},
		{skip(-2, 3), 0, api.OK},
		{jump(math.MinInt, most), 0, api.OK},
		{skip(3, -1), 0, api.ErrArg},
		{jump(0, -1), 0, api.ErrArg},
		{miss(1, math.MinInt), 0, api.ErrArg},
		{skip(1, most), most, api.OK},
		{skip(1, most+1), 0, api.ErrArg},
		{miss(7, most), most, api.OK},
		{miss(7, most+1), 0, api.ErrArg},
		{skip(-1, most+1), 0, api.ErrArg},
		{jump(most, 1), most, api.OK},
		{jump(most, 0), 0, api.OK},
		{jump(most+1, 0), 0, api.ErrArg},
		{skip(math.MaxInt, 1), 0, api.ErrArg},
		{skip(math.MaxInt, math.MinInt), 0, api.ErrArg},
		{skip(2, most/2), most - 1, api.OK},
		{skip(2, most/2+1), 0, api.ErrOver},
		{jump(most, 2), 0, api.ErrOver},
		{jump(most, most), 0, api.ErrOver},
		{skip(1<<32, 1<<32), 0, api.ErrOver},
		{hits(), 1, api.OK},
		{hits(3, 4, 5), 1, api.OK},
		{api.Record{Kind: api.At, N: 7, R: 7}, 1, api.OK},
		{api.Record{Kind: api.At, N: -1, R: -1}, 1, api.OK},
		{api.Record{Kind: api.At, N: math.MaxInt, R: math.MaxInt}, 1, api.OK},
		{check(5, 5), 0, api.OK},
		{end(5, 5), 0, api.OK},
		{check(-1, math.MinInt), 0, api.OK},
		{end(math.MaxInt, math.MaxInt), 0, api.OK},
		{api.Record{}, 0, api.OK},
		{api.Record{N: 3, R: -1}, 0, api.OK},
		{api.Record{Kind: 7, N: 3, R: -1}, 0, api.OK},
		{api.Record{Kind: math.MinInt, N: most + 1, R: 3}, 0, api.OK},
	} {
		checkCovers(t, q.r, q.want, q.e)
	}
}

// 27.1: records of all kinds with many Ns and Rs.
func TestAllCovers(t *testing.T) {
	for _, kind := range kinds() {
		for _, n := range numbers() {
			for _, r := range numbers() {
				rec := api.Record{Kind: kind, N: n, R: r}
				want, e := wantCovers(rec)
				checkCovers(t, rec, want, e)
				rec.Ids = []int{3, -1}
				checkCovers(t, rec, want, e)
			}
		}
	}
}

// 27.1: how far records reach, and which error is told first.
func TestFar(t *testing.T) {
	arg, over := skip(1, -1), skip(2, most)
	for _, q := range []struct {
		at   int
		l    []api.Record
		want int
		e    api.Errno
	}{
		{0, nil, 0, api.OK},
		{7, nil, 7, api.OK},
		{7, list(), 7, api.OK},
		{most, nil, most, api.OK},
		{-1, nil, 0, api.ErrArg},
		{math.MinInt, nil, 0, api.ErrArg},
		{most + 1, nil, 0, api.ErrArg},
		{math.MaxInt, nil, 0, api.ErrArg},
		{-1, list(over), 0, api.ErrArg},
		{most + 1, list(over), 0, api.ErrArg},
		{3, list(skip(2, 2), jump(3, 1), miss(9, 4), hits(1, 2), hits(), check(8, 8), end(8, 8), api.Record{}), 16, api.OK},
		{3, list(skip(-5, 2), jump(2, 0)), 3, api.OK},
		{3, list(arg), 0, api.ErrArg},
		{3, list(over), 0, api.ErrOver},
		{3, list(arg, over), 0, api.ErrArg},
		{3, list(over, arg), 0, api.ErrOver},
		{3, list(hits(), check(1, 1), over, arg), 0, api.ErrOver},
		{3, list(hits(), check(1, 1), arg, over), 0, api.ErrArg},
		{most, list(hits(), arg), 0, api.ErrOver},
		{most, list(arg, hits()), 0, api.ErrArg},
		{most, list(end(1, 1), arg, hits()), 0, api.ErrArg},
		{most - 1, list(hits()), most, api.OK},
		{most - 1, list(hits(), hits()), 0, api.ErrOver},
		{most, list(skip(5, 0), jump(0, 5), check(5, 5), end(most, most)), most, api.OK},
		{most, list(miss(1, 1)), 0, api.ErrOver},
		{0, list(skip(1, most)), most, api.OK},
		{1, list(skip(1, most)), 0, api.ErrOver},
		{most, list(skip(1, most)), 0, api.ErrOver},
		{0, list(skip(1, most), skip(1, most), skip(1, most), skip(1, most)), 0, api.ErrOver},
		{0, list(jump(most/2, 1), jump(most/2, 1), hits()), most, api.OK},
		{0, list(jump(most/2, 1), jump(most/2, 1), hits(), hits()), 0, api.ErrOver},
		{5, list(hits(), arg, hits()), 0, api.ErrArg},
	} {
		checkFar(t, q.at, q.l, q.want, q.e)
	}
}

// 27.1: all short lists, from near and far ends on.
func TestAllFar(t *testing.T) {
	some := append(pool(), skip(1, -1), skip(2, most), jump(most+1, 0), miss(1, most-1))
	lists(some, 3, func(l []api.Record) {
		for _, at := range []int{math.MinInt, -1, 0, 1, 5, most/2 + 1, most - 6, most - 3, most - 1, most, most + 1, math.MaxInt} {
			n, e := merge.Far(at, l)
			if want, we := wantFar(at, l); n != want || e != we {
				t.Fatalf("Far(%d, %+v): %d, %v; want %d, %v", at, l, n, e, want, we)
			}
		}
	})
}

// 27.2: what comes to a merger, and what it tells, bit by bit.
func TestMerger(t *testing.T) {
	none := api.Record{}
	var m merge.Merger
	checkFlush(t, &m, none, false)
	checkFlush(t, &m, none, false)
	for range 2 {
		checkAdd(t, &m, miss(4, 2), none, false)
		checkAdd(t, &m, miss(4, 1), none, false)
		checkAdd(t, &m, miss(4, 5), none, false)
		checkAdd(t, &m, hits(2, 3), miss(4, 8), true)
		checkAdd(t, &m, hits(2, 3), hits(2, 3), true)
		checkAdd(t, &m, skip(1, most-2), hits(2, 3), true)
		checkAdd(t, &m, skip(1, 1), none, false)
		checkAdd(t, &m, skip(1, 1), none, false)
		checkAdd(t, &m, skip(1, 1), skip(1, most), true)
		checkAdd(t, &m, skip(1, 0), skip(1, 1), true)
		checkAdd(t, &m, skip(1, 1), skip(1, 0), true)
		checkAdd(t, &m, none, skip(1, 1), true)
		checkAdd(t, &m, none, none, true)
		checkAdd(t, &m, skip(1, -3), none, true)
		checkAdd(t, &m, with(skip(1, 1), 5), skip(1, -3), true)
		checkAdd(t, &m, api.Record{Kind: api.At, N: -7, R: 9, Ids: []int{5, 4}}, with(skip(1, 1), 5), true)
		checkAdd(t, &m, api.Record{Kind: 99, N: -7, R: 9, Ids: []int{-1}}, api.Record{Kind: api.At, N: -7, R: 9, Ids: []int{5, 4}}, true)
		checkFlush(t, &m, api.Record{Kind: 99, N: -7, R: 9, Ids: []int{-1}}, true)
		checkFlush(t, &m, none, false)
		checkAdd(t, &m, none, none, false)
		checkFlush(t, &m, none, true)
		checkFlush(t, &m, none, false)
	}
}

// 27.2: a merger that was flushed puts nothing together with what it held.
func TestFlushed(t *testing.T) {
	for _, r := range pool() {
		for _, next := range pool() {
			var m merge.Merger
			checkAdd(t, &m, r, api.Record{}, false)
			checkFlush(t, &m, r, true)
			checkAdd(t, &m, next, api.Record{}, false)
			checkFlush(t, &m, next, true)
			checkFlush(t, &m, api.Record{}, false)
		}
	}
}

// 27.2: a nil merger holds none, whatever comes.
func TestNil(t *testing.T) {
	var m *merge.Merger
	for range 2 {
		checkFlush(t, m, api.Record{}, false)
		for _, r := range append(pool(), skip(math.MinInt, math.MaxInt), with(end(-1, -1), -1)) {
			checkAdd(t, m, r, api.Record{}, false)
			checkAdd(t, m, r, api.Record{}, false)
		}
		checkFlush(t, m, api.Record{}, false)
	}
}

// bitByBit adds records to a merger, which is flushed behind those that bits name, and holds what it tells against the words.
func bitByBit(t *testing.T, l []api.Record, flushed int) {
	t.Helper()
	var m merge.Merger
	var held []api.Record
	for i, r := range l {
		all := wantAll(append(slices.Clone(held), r))
		want, ok := api.Record{}, len(all) == 2
		if ok {
			want = all[0]
		}
		checkAdd(t, &m, r, want, ok)
		held = all[len(all)-1:]
		if flushed>>i&1 == 1 {
			checkFlush(t, &m, held[0], true)
			held = nil
		}
	}
	if len(held) == 1 {
		checkFlush(t, &m, held[0], true)
	}
	checkFlush(t, &m, api.Record{}, false)
	if t.Failed() {
		t.Fatalf("of %+v, flushed behind %b", l, flushed)
	}
}

// 27.2: all short lists of records, flushed behind any of them.
func TestAllMergers(t *testing.T) {
	lists(pool(), 3, func(l []api.Record) {
		for flushed := range 1 << len(l) {
			bitByBit(t, l, flushed)
		}
	})
}

// 27.3: lists, like ones put together, and whether none can be.
func TestAll(t *testing.T) {
	for _, q := range []struct{ l, want []api.Record }{
		{nil, nil},
		{list(), nil},
		{list(api.Record{}), list(api.Record{})},
		{list(api.Record{}, api.Record{}), list(api.Record{}, api.Record{})},
		{list(skip(2, 1)), list(skip(2, 1))},
		{list(skip(2, 1), skip(2, 2), skip(2, 3)), list(skip(2, 6))},
		{list(skip(2, 1), jump(2, 1), skip(2, 1)), list(skip(2, 1), jump(2, 1), skip(2, 1))},
		{list(jump(2, 1), jump(2, 1), miss(2, 1), miss(2, 1), hits(), hits(), miss(2, 1)), list(jump(2, 2), miss(2, 2), hits(), hits(), miss(2, 1))},
		{list(skip(1, 1), skip(2, 1), skip(2, 1), skip(1, 1)), list(skip(1, 1), skip(2, 2), skip(1, 1))},
		{list(miss(1, 1), check(1, 1), miss(1, 1), check(1, 1), check(1, 1), end(2, 0), end(2, 0)), list(miss(1, 1), check(1, 1), miss(1, 1), check(1, 1), check(1, 1), end(2, 0), end(2, 0))},
		{list(skip(1, most), skip(1, 1), skip(1, 1)), list(skip(1, most), skip(1, 2))},
		{list(skip(1, most-1), skip(1, 2), skip(1, 1)), list(skip(1, most-1), skip(1, 3))},
		{list(skip(1, most-1), skip(1, 1), skip(1, 1)), list(skip(1, most), skip(1, 1))},
		{list(skip(1, 1), skip(1, 0), skip(1, 1)), list(skip(1, 1), skip(1, 0), skip(1, 1))},
		{list(with(skip(1, 1), 0), skip(1, 1), skip(1, 1)), list(with(skip(1, 1), 0), skip(1, 2))},
		{list(skip(1, 1), skip(1, 1), with(skip(1, 1), 0)), list(skip(1, 2), with(skip(1, 1), 0))},
	} {
		checkAll(t, q.l, q.want)
		checkCanon(t, q.l, len(q.l) == len(q.want))
		checkCanon(t, q.want, true)
	}
}

// 27.3: where in a list the two stand that can be put together.
func TestCanon(t *testing.T) {
	var l []api.Record
	for i := range 9 {
		l = append(l, skip(i, 1), hits(i), jump(i, 1))
	}
	checkCanon(t, l, true)
	for i, r := range l {
		twice := slices.Insert(slices.Clone(l), i, r)
		checkCanon(t, twice, r.Kind == api.At)
		// Alike ones that are no neighbours are none.
		checkCanon(t, slices.Insert(twice, i+1, end(0, 0)), true)
	}
}

// 27.3, 27.4: all short lists: All is what a merger tells, covers as many ends, is Canon, and stays as it is.
func TestAllLists(t *testing.T) {
	lists(pool(), 4, func(l []api.Record) {
		all, want := merge.All(l), wantAll(l)
		if !same(all, want) {
			t.Fatalf("All(%+v): %+v; want %+v", l, all, want)
		}
		if got := merge.Canon(l); got != wantCanon(l) || got != (len(all) == len(l)) {
			t.Fatalf("Canon(%+v): %v; want %v", l, got, wantCanon(l))
		}
		if again := merge.All(all); !same(again, all) || !merge.Canon(all) {
			t.Fatalf("All of All of %+v: %+v; want %+v, which is Canon: %v", l, again, all, merge.Canon(all))
		}
		n, e := merge.Far(5, l)
		if m, o := merge.Far(5, all); n != m && e == api.OK || e != o {
			t.Fatalf("Far of %+v: %d, %v; of All of it: %d, %v", l, n, e, m, o)
		}
	})
}

// 27.4: what was put together covers as many ends.
func TestAsMany(t *testing.T) {
	for _, kind := range []int{api.Skip, api.Leap, api.Miss} {
		for _, n := range []int{math.MinInt, -1, 0, 1, 2, 7, 65535, 1 << 20} {
			for _, r := range []int{1, 2, 9, 1 << 30} {
				for _, s := range []int{1, 3, 1 << 31} {
					a, b := api.Record{Kind: kind, N: n, R: r}, api.Record{Kind: kind, N: n, R: s}
					both, ok := merge.Two(a, b)
					na, ea := merge.Covers(a)
					nb, eb := merge.Covers(b)
					if m, e := merge.Covers(both); !ok || m != na+nb || e != api.OK || ea != api.OK || eb != api.OK {
						t.Errorf("%+v and %+v: %d, %d; both, %+v, %v: %d, %v", a, b, na, nb, both, ok, m, e)
					}
				}
			}
		}
	}
}

// through is all evidence of a stream, of which each record covers ends once.
func through(t *testing.T, x *pats.Set, s string, skips bool) []api.Record {
	t.Helper()
	l := leap.New(x, skips)
	k, e := carry.New(l.Keep())
	if e != api.OK {
		t.Fatal(e)
	}
	k.Add(s)
	rs, at := l.Run(k, 0)
	if r, ok := l.Last(k, at); ok {
		rs = append(rs, r)
	}
	return rs
}

// 27.3, 27.4: the evidence of streams, put together, reaches to their ends, and says again what it said.
func TestEvidence(t *testing.T) {
	for _, l := range [][]string{{"abc", "bc"}, {"a"}, {"ab", "bab"}, {"aaaa"}, {"abcab", "bbbbb"}} {
		x, e := pats.New(l)
		if e != api.OK {
			t.Fatal(e)
		}
		for _, s := range []string{"", "a", "xabcx", "xxxxxxxxx", "aaaaaaaaaaa", "abababbabcabcxxxxxxxxabc", "bbbbbbbbbb"} {
			for _, skips := range []bool{true, false} {
				rs := through(t, x, s, skips)
				checkFar(t, 0, rs, len(s), api.OK)
				all := merge.All(rs)
				checkFar(t, 0, all, len(s), api.OK)
				checkCanon(t, all, true)
				var again []api.Record
				for _, r := range all {
					n, _ := merge.Covers(r)
					for range n / max(probe.Covers(r), 1) {
						one := r
						one.R = min(r.R, 1)
						again = append(again, one)
					}
				}
				if !same(again, rs) {
					t.Errorf("of %q, %q: %+v; want %+v", l, s, again, rs)
				}
			}
		}
	}
	x, _ := pats.New([]string{"abc"})
	checkAll(t, through(t, x, "xxxxxxabcxx", true), list(skip(3, 2), skip(2, 1), hits(0), skip(2, 1)))
}

// 27.2, 27.3: many records, of which many are put together.
func TestMany(t *testing.T) {
	const n = 1 << 18
	var l, want []api.Record
	for i := range n {
		switch {
		case i%1024 == 1023:
			l, want = append(l, hits(i%7)), append(want, hits(i%7))
		case i%1024 == 0:
			l, want = append(l, miss(i, 1)), append(want, miss(i, 1023))
		default:
			l = append(l, miss(i/1024*1024, 1))
		}
	}
	checkAll(t, l, want)
	checkFar(t, 1, l, n+1, api.OK)
	checkFar(t, 1, want, n+1, api.OK)
	checkCanon(t, l, false)
	checkCanon(t, want, true)
}

// 27.2: the longest list of Ids is told as it came.
func TestLongest(t *testing.T) {
	var ids []int
	for id := range api.MaxPatterns {
		ids = append(ids, id)
	}
	var m merge.Merger
	checkAdd(t, &m, hits(ids...), api.Record{}, false)
	checkAdd(t, &m, hits(ids...), hits(ids...), true)
	checkFlush(t, &m, hits(ids...), true)
	checkAll(t, list(hits(ids...), hits(ids[1:]...)), list(hits(ids...), hits(ids[1:]...)))
}

// R4: what is handed in stays as it was, also behind its lists' lengths.
func TestHandedIn(t *testing.T) {
	ids := []int{1, 2, 3, -8, -9}
	l := list(hits(ids[:3]...), skip(2, 1), skip(2, 1), with(miss(1, 1), ids[:0]...), miss(1, 1), check(1, 1), skip(7, 7), skip(7, 7))
	l[0].Ids = ids[:3]
	l[3].Ids = ids[:0]
	before := copied(l)
	some := l[:6]
	var m merge.Merger
	for range 2 {
		checkAll(t, some, list(before[0], skip(2, 2), miss(1, 2), check(1, 1)))
		merge.Canon(some)
		merge.Far(0, some)
		for i, r := range some {
			m.Add(r)
			merge.Covers(r)
			merge.Two(r, l[i+1])
		}
		m.Flush()
	}
	if !same(l, before) || !slices.Equal(ids, []int{1, 2, 3, -8, -9}) {
		t.Errorf("%+v, %v; want %+v, as it was", l, ids, before)
	}
}

// spoil writes into all memory that an answer's lists reach.
func spoil(l []api.Record) {
	l = l[:cap(l)]
	for i := range l {
		ids := l[i].Ids[:cap(l[i].Ids)]
		for k := range ids {
			ids[k] = -7
		}
		l[i] = api.Record{Kind: -7}
	}
}

// R4: a merger's record is none of what was handed in, and what it told is none of the merger's.
func TestApart(t *testing.T) {
	var m merge.Merger
	ids := []int{1, 2, 3}
	checkAdd(t, &m, hits(ids...), api.Record{}, false)
	spoil(list(hits(ids...)))
	first, _ := m.Add(api.Record{Kind: api.At, Ids: ids})
	if !sameRecord(first, hits(1, 2, 3)) {
		t.Errorf("Add: %+v; want what came, %+v", first, hits(1, 2, 3))
	}
	spoil(list(first))
	copy(ids, []int{4, 5, 6})
	checkAdd(t, &m, api.Record{Kind: api.At, Ids: ids}, hits(-7, -7, -7), true)
	last, _ := m.Flush()
	spoil(list(last))
	checkFlush(t, &m, api.Record{}, false)
	if !slices.Equal(ids, []int{4, 5, 6}) {
		t.Errorf("what was handed in is %v; want it as it was", ids)
	}
}

// R4: what two records are together shares no memory with their lists, which are empty.
func TestTwoApart(t *testing.T) {
	room := []int{1, 2, 3}
	r := api.Record{Kind: api.Skip, N: 1, R: 1, Ids: room[:0]}
	both, ok := merge.Two(r, r)
	if !ok {
		t.Fatal("two records with empty lists are not put together")
	}
	var m merge.Merger
	m.Add(r)
	m.Add(r)
	told, _ := m.Flush()
	spoil(list(both, told))
	spoil(merge.All(list(r)))
	spoil(merge.All(list(r, r, r)))
	if !slices.Equal(room, []int{1, 2, 3}) {
		t.Errorf("what lies behind a list's length is %v; want it as it was", room)
	}
}

// R4: of what All tells no lists share memory, with one another nor with what was handed in.
func TestAllApart(t *testing.T) {
	ids := []int{1, 2, 3, 4}
	one := api.Record{Kind: api.At, Ids: ids[:2]}
	l := list(one, one, skip(1, 1), skip(1, 1), one, api.Record{Kind: api.End, Ids: ids[1:3]})
	before := copied(l)
	want := list(hits(1, 2), hits(1, 2), skip(1, 2), hits(1, 2), api.Record{Kind: api.End, Ids: []int{2, 3}})
	got, other := merge.All(l), merge.All(l)
	for i := range got {
		spoil(got[i : i+1 : i+1])
		if !same(got[i+1:], want[i+1:]) {
			t.Fatalf("writing into the record %d changed one behind it: %+v", i, got)
		}
	}
	spoil(got)
	if !same(other, want) || !same(l, before) || !slices.Equal(ids, []int{1, 2, 3, 4}) {
		t.Errorf("%+v, of %+v, %v; want %+v, of %+v", other, l, ids, want, before)
	}
	// Where nothing is put together, the answer is another list all the same.
	l = list(skip(1, 1))
	spoil(merge.All(l))
	if !same(l, list(skip(1, 1))) {
		t.Errorf("%+v; want it as it was", l)
	}
}

// freed is whether memory is given up, as far as that is to be seen.
func freed(p weak.Pointer[[9999]int]) bool {
	for range 5 {
		runtime.GC()
	}
	return p.Value() == nil
}

// R4, T7: a merger keeps no list that was handed in, not even an empty one's memory.
func TestKept(t *testing.T) {
	for _, n := range []int{0, 1, 9999} {
		var m merge.Merger
		room := new([9999]int)
		p := weak.Make(room)
		m.Add(api.Record{Kind: api.At, Ids: room[:n]})
		room = nil
		if !freed(p) {
			t.Errorf("the memory of a list of %d is kept", n)
		}
		if r, ok := m.Flush(); len(r.Ids) != n || !ok {
			t.Errorf("%d Ids, %v; want %d", len(r.Ids), ok, n)
		}
	}
}

// T7: a merger keeps nothing of what it told.
func TestTold(t *testing.T) {
	for _, flush := range []bool{true, false} {
		var m merge.Merger
		m.Add(hits(make([]int, 9999)...))
		tell := m.Flush
		if !flush {
			tell = func() (api.Record, bool) { return m.Add(skip(1, 1)) }
		}
		r, ok := tell()
		if len(r.Ids) != 9999 || !ok {
			t.Fatalf("%d Ids, %v; want 9999", len(r.Ids), ok)
		}
		p := weak.Make((*[9999]int)(r.Ids))
		r = api.Record{}
		if !freed(p) {
			t.Errorf("flushed %v: what was told is kept", flush)
		}
		m.Add(skip(1, 1))
		runtime.KeepAlive(&m)
	}
}

// inUse is how much memory is in use.
func inUse() int {
	var m runtime.MemStats
	for range 3 {
		runtime.GC()
	}
	runtime.ReadMemStats(&m)
	return int(m.HeapAlloc)
}

// T7: a merger keeps no more, the more records come.
func TestLittle(t *testing.T) {
	var m merge.Merger
	first := 0
	for i := range 1 << 20 {
		m.Add(miss(i/3, 1))
		if i%5 == 0 {
			m.Add(hits(i, i+1))
		}
		if i == 1<<19 {
			first = inUse()
		}
	}
	if more := inUse() - first; more > 1<<16 {
		t.Errorf("behind twice as many records %d bytes more are in use", more)
	}
	runtime.KeepAlive(&m)
}

// R5: the same again; mergers know nothing of each other, and what is asked of records changes nothing.
func TestAgain(t *testing.T) {
	l := pool()
	var a, b merge.Merger
	var ra, rb []api.Record
	for range 2 {
		for i, r := range l {
			if d, ok := a.Add(r); ok {
				ra = append(ra, d)
			}
			merge.All(l[i:])
			merge.Two(r, l[0])
			merge.Covers(r)
			merge.Far(i, l)
			if d, ok := b.Add(l[len(l)-1-i]); ok {
				rb = append(rb, d)
			}
			checkAll(t, l, wantAll(l))
			checkCanon(t, l, wantCanon(l))
		}
	}
	da, _ := a.Flush()
	db, _ := b.Flush()
	twice := append(slices.Clone(l), l...)
	if want := wantAll(twice); !same(append(ra, da), want) {
		t.Errorf("%+v, %+v; want %+v", ra, da, want)
	}
	slices.Reverse(twice)
	if want := wantAll(twice); !same(append(rb, db), want) {
		t.Errorf("%+v, %+v; want %+v", rb, db, want)
	}
}
