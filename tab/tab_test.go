package tab_test

import (
	"cmp"
	"math"
	"runtime"
	"slices"
	"strings"
	"testing"
	"unsafe"
	"weak"

	"jurat/api"
	"jurat/auto"
	"jurat/pats"
	"jurat/tab"
)

// head is how the bytes of rows begin, as the chapter's example writes it.
const head = "\x74\x61\x62\x01"

// texts is all texts of at most so many bytes out of some, the shortest first.
func texts(some string, most int) []string {
	l := []string{""}
	for i := 0; i < len(l); i++ {
		if len(l[i]) == most {
			continue
		}
		for k := range len(some) {
			l = append(l, l[i]+some[k:k+1])
		}
	}
	return l
}

// eachText calls f with all texts of at most so many bytes out of some.
func eachText(some string, most int, f func(string)) {
	var grow func([]byte)
	grow = func(b []byte) {
		f(string(b))
		if len(b) == most {
			return
		}
		for i := range len(some) {
			grow(append(b, some[i]))
		}
	}
	grow(make([]byte, 0, most))
}

// subsets calls f with each list of some texts that has one at least, each at most once.
func subsets(some []string, f func([]string)) {
	for bits := 1; bits < 1<<len(some); bits++ {
		var l []string
		for i, s := range some {
			if bits>>i&1 == 1 {
				l = append(l, s)
			}
		}
		f(l)
	}
}

// few are lists of patterns, among them some of all kinds of bytes, and of more states than a byte can number.
func few() [][]string {
	return [][]string{
		{"a"},
		{"ab", "b"},
		{"he", "hers", "she"},
		{"\x00"},
		{"\x00\x01", "\x01\x02\x00"},
		{"\x7f", "\x80", "\x80\x80", "\xff\x00"},
		{"\xc3\xa4", "\xe2\x82\xac\xc3"},
		{strings.Repeat("x", 140), "xy"},
	}
}

// mixed is a text of some bytes, in which they stand mixed.
func mixed(some string, size int) string {
	b, n := []byte{}, uint32(size)
	for range size {
		n = n*1664525 + 1013904223
		b = append(b, some[int(n>>16)%len(some)])
	}
	return string(b)
}

// all is all bytes, from the least one on.
func all() string {
	var b []byte
	for c := range 256 {
		b = append(b, byte(c))
	}
	return string(b)
}

// setOf is the set of texts that are one.
func setOf(t *testing.T, l ...string) *pats.Set {
	t.Helper()
	x, e := pats.New(l)
	if x == nil || e != api.OK {
		t.Fatalf("pats.New of %d texts %.40q: %v; want a set", len(l), l[:min(len(l), 9)], e)
	}
	return x
}

// number is a number's bytes, lowest digit first, a power of 128 each.
func number(n int) string {
	if n < 128 {
		return string([]byte{byte(n)})
	}
	return string([]byte{byte(n%128 + 128)}) + number(n/128)
}

// numbers is the bytes of several.
func numbers(l ...int) string {
	var b strings.Builder
	for _, n := range l {
		b.WriteString(number(n))
	}
	return b.String()
}

// file is the beginning of rows' bytes, up to the bytes that rise, and the numbers behind these.
func file(states, bytes int, own string, l ...int) string {
	return head + number(states) + number(bytes) + own + numbers(l...)
}

// words is what the chapter words of rows: the bytes, and of each state its depth, and where each of the bytes leads.
type words struct {
	own  string
	rows [][]int
}

// wordsOf is that of a set's rows.
func wordsOf(l []string) words {
	list, states := []string{""}, map[string]int{}
	for _, p := range l {
		for n := range len(p) + 1 {
			list = append(list, p[:n])
		}
	}
	slices.SortFunc(list, func(a, b string) int {
		return cmp.Or(len(a)-len(b), strings.Compare(a, b))
	})
	list = slices.Compact(list)
	for s, p := range list {
		states[p] = s
	}
	own := slices.Sorted(slices.Values([]byte(strings.Join(l, ""))))
	w := words{own: string(slices.Compact(own))}
	for _, p := range list {
		row := []int{len(p)}
		for i := range len(w.own) {
			row = append(row, longest(states, p+w.own[i:i+1]))
		}
		w.rows = append(w.rows, row)
	}
	return w
}

// longest is the longest state with which a text ends.
func longest(states map[string]int, s string) int {
	for {
		if n, ok := states[s]; ok {
			return n
		}
		s = s[1:]
	}
}

// bytes is the bytes of such rows.
func (w words) bytes() string {
	return file(len(w.rows), len(w.own), w.own, slices.Concat(w.rows...)...)
}

// takeNumber is the number with which bytes begin, and what stands behind it, as chapter 2 words it.
func takeNumber(s string) (uint64, string, api.Errno) {
	var n uint64
	for i := range min(len(s), 9) {
		n += uint64(s[i]%128) << (7 * i)
		switch {
		case s[i] >= 128:
			continue
		case s[i] == 0 && i > 0:
			return 0, "", api.ErrForm
		}
		return n, s[i+1:], api.OK
	}
	if len(s) >= 9 {
		return 0, "", api.ErrLong
	}
	return 0, "", api.ErrShort
}

// takeRow is the row of a state that is told next, and what stands behind it.
func takeRow(s string, state int, states uint64, own string) ([]int, string, api.Errno) {
	depth, s, e := takeNumber(s)
	switch {
	case e != api.OK:
		return nil, "", e
	case depth > 65535:
		return nil, "", api.ErrRange
	case depth == 0 && state > 0, depth > 0 && state == 0:
		return nil, "", api.ErrForm
	}
	row := []int{int(depth)}
	for range len(own) {
		var to uint64
		to, s, e = takeNumber(s)
		switch {
		case e != api.OK:
			return nil, "", e
		case to >= states:
			return nil, "", api.ErrRange
		}
		row = append(row, int(to))
	}
	return row, s, api.OK
}

// takeOwn is how many states are told, the bytes that rise, and what stands behind these.
func takeOwn(s string) (uint64, string, string, api.Errno) {
	if len(s) < 4 || s[:4] != head {
		return 0, "", "", api.ErrHead
	}
	states, s, e := takeNumber(s[4:])
	switch {
	case e != api.OK:
		return 0, "", "", e
	case states > 16777217:
		return 0, "", "", api.ErrRange
	case states == 0:
		return 0, "", "", api.ErrNone
	}
	n, s, e := takeNumber(s)
	switch {
	case e != api.OK:
		return 0, "", "", e
	case n > 256:
		return 0, "", "", api.ErrRange
	case n > uint64(len(s)):
		return 0, "", "", api.ErrShort
	}
	for i := 1; i < int(n); i++ {
		if s[i] <= s[i-1] {
			return 0, "", "", api.ErrOrder
		}
	}
	return states, s[:n], s[n:], api.OK
}

// wantTake is the rows that Take is to answer, or its error, as the chapter words it.
func wantTake(s string) (words, api.Errno) {
	states, own, s, e := takeOwn(s)
	if e != api.OK {
		return words{}, e
	}
	w := words{own: own}
	for state := range int(states) {
		var row []int
		row, s, e = takeRow(s, state, states, own)
		if e != api.OK {
			return words{}, e
		}
		w.rows = append(w.rows, row)
	}
	if s != "" {
		return words{}, api.ErrMore
	}
	return w, api.OK
}

func checkLen(t *testing.T, r *tab.Rows, want int) {
	t.Helper()
	if n := r.Len(); n != want {
		t.Errorf("Len: %d; want %d", n, want)
	}
}

func checkDepth(t *testing.T, r *tab.Rows, s, want int) {
	t.Helper()
	if n := r.Depth(s); n != want {
		t.Errorf("Depth(%d): %d; want %d", s, n, want)
	}
}

func checkStep(t *testing.T, r *tab.Rows, s int, c byte, want int) {
	t.Helper()
	if n := r.Step(s, c); n != want {
		t.Errorf("Step(%d, %q): %d; want %d", s, c, n, want)
	}
}

func checkPut(t *testing.T, r *tab.Rows, want string) {
	t.Helper()
	if s := r.Put(); s != want {
		t.Errorf("Put: %d bytes %.60x; want %d: %.60x", len(s), s, len(want), want)
	}
}

func checkFits(t *testing.T, r *tab.Rows, x *pats.Set, want bool) {
	t.Helper()
	if ok := r.Fits(x); ok != want {
		t.Errorf("Fits of %d patterns %.40q: %v; want %v", x.Len(), x.List()[:min(x.Len(), 9)], ok, want)
	}
}

// checkNoState asks for nothing at numbers that are no state's: beyond both ends, at an int's edges, and such as are a state's once they are cut to fewer bits.
func checkNoState(t *testing.T, r *tab.Rows) {
	t.Helper()
	n := r.Len()
	for _, s := range []int{
		math.MinInt, math.MinInt + 1, -n - 1, -n, -2, -1, n, n + 1, 2*n + 3, math.MaxInt - 1, math.MaxInt,
		1 << 31, 1 << 32, 1<<32 + 1, 1<<32 + n - 1, 1 << 62, 1<<62 + 1, 1<<63 - 1<<62, -1 << 31, -1 << 32, 1 - 1<<32, n - 1 - 1<<32,
	} {
		if s >= 0 && s < n {
			continue
		}
		checkDepth(t, r, s, 0)
		for c := range 256 {
			checkStep(t, r, s, byte(c), 0)
		}
	}
}

// checkRows asks of rows all that 22.3 tells of each state, and by all bytes, and for their bytes.
func checkRows(t *testing.T, r *tab.Rows, w words) {
	t.Helper()
	checkLen(t, r, len(w.rows))
	for s, row := range w.rows {
		checkDepth(t, r, s, row[0])
		for c := range 256 {
			want, i := 0, strings.IndexByte(w.own, byte(c))
			if i >= 0 {
				want = row[1+i]
			}
			if r.Step(s, byte(c)) != want {
				checkStep(t, r, s, byte(c), want)
			}
		}
	}
	checkPut(t, r, w.bytes())
}

// takenOf is the rows of bytes that are some rows'.
func takenOf(t *testing.T, s string) *tab.Rows {
	t.Helper()
	r, e := tab.Take(s)
	if r == nil || e != api.OK {
		t.Fatalf("Take of %d bytes %.60x: rows: %v, %v; want rows", len(s), s, r != nil, e)
	}
	return r
}

// checkRefused asks for the rows of bytes that are none's.
func checkRefused(t *testing.T, s string, want api.Errno) {
	t.Helper()
	if r, e := tab.Take(s); r != nil || e != want {
		t.Errorf("Take of %d bytes %.60x: rows: %v, %v; want none, %v", len(s), s, r != nil, e, want)
	}
}

// checkTake asks for the rows of any bytes, which must be those that are put of them.
func checkTake(t *testing.T, s string) {
	t.Helper()
	w, e := wantTake(s)
	if e != api.OK {
		checkRefused(t, s, e)
		return
	}
	checkRows(t, takenOf(t, s), w)
	if w.bytes() != s {
		t.Errorf("the tests take %.60x as the rows of %.60x", s, w.bytes())
	}
}

// checkSet asks of the rows of patterns all that 22.1 to 22.4 tell of them, by the chapters' words; it tells them as they are and as they are taken.
func checkSet(t *testing.T, l ...string) {
	t.Helper()
	x, w := setOf(t, l...), wordsOf(l)
	r := tab.Of(x)
	for _, same := range []*tab.Rows{r, takenOf(t, r.Put())} {
		checkRows(t, same, w)
		checkNoState(t, same)
		checkFits(t, same, x, true)
		checkFits(t, same, nil, false)
	}
	if t.Failed() {
		t.Fatalf("of the %d patterns %.40q", len(l), l[:min(len(l), 9)])
	}
}

// checkAuto asks whether the rows of a set lead as its automaton does, as 22.4 tells, and as they are taken.
func checkAuto(t *testing.T, x *pats.Set) {
	t.Helper()
	a, e := auto.New(x, api.Dense)
	if e != api.OK {
		t.Fatal(e)
	}
	r := tab.Of(x)
	for _, same := range []*tab.Rows{r, takenOf(t, r.Put())} {
		checkLen(t, same, a.Len())
		for s := range a.Len() {
			checkDepth(t, same, s, a.Depth(s))
			for c := range 256 {
				if same.Step(s, byte(c)) != a.Step(s, byte(c)) {
					checkStep(t, same, s, byte(c), a.Step(s, byte(c)))
				}
			}
		}
		checkNoState(t, same)
		checkFits(t, same, x, true)
	}
}

// 22.1, 22.2, 22.3: the chapter's example.
func TestExample(t *testing.T) {
	if tab.Head != head {
		t.Errorf("Head: %x", tab.Head)
	}
	const put = "\x74\x61\x62\x01\x02\x01\x61\x00\x01\x01\x01"
	x := setOf(t, "a")
	for _, r := range []*tab.Rows{tab.Of(x), takenOf(t, put)} {
		checkPut(t, r, put)
		checkLen(t, r, 2)
		checkDepth(t, r, 0, 0)
		checkDepth(t, r, 1, 1)
		checkDepth(t, r, 2, 0)
		checkDepth(t, r, -1, 0)
		checkStep(t, r, 0, 'a', 1)
		checkStep(t, r, 1, 'a', 1)
		checkStep(t, r, 1, 'b', 0)
		checkStep(t, r, 2, 'a', 0)
		checkStep(t, r, -1, 'a', 0)
		checkFits(t, r, x, true)
		checkFits(t, r, setOf(t, "b"), false)
		checkFits(t, r, setOf(t, "aa"), false)
		checkFits(t, r, setOf(t, "a", "b"), false)
		checkFits(t, r, nil, false)
	}
}

// 22.1: bytes of rows, by examples.
func TestPut(t *testing.T) {
	for _, x := range []struct {
		patterns []string
		want     string
	}{
		{[]string{"ab", "b"}, "tab\x01\x04\x02ab\x00\x01\x02\x01\x01\x03\x01\x01\x02\x02\x01\x02"},
		{[]string{"b", "ab"}, "tab\x01\x04\x02ab\x00\x01\x02\x01\x01\x03\x01\x01\x02\x02\x01\x02"},
		{[]string{"\xff\x00"}, "tab\x01\x03\x02\x00\xff\x00\x00\x01\x01\x02\x01\x02\x00\x01"},
		// The states are the empty one, h, s, he, sh, her, she, hers.
		{[]string{"she", "he", "hers"}, "tab\x01\x08\x04ehrs" +
			"\x00\x00\x01\x00\x02" + "\x01\x03\x01\x00\x02" + "\x01\x00\x04\x00\x02" + "\x02\x00\x01\x05\x02" +
			"\x02\x06\x01\x00\x02" + "\x03\x00\x01\x00\x07" + "\x03\x00\x01\x05\x02" + "\x04\x00\x04\x00\x02"},
	} {
		checkPut(t, tab.Of(setOf(t, x.patterns...)), x.want)
		checkPut(t, takenOf(t, x.want), x.want)
		checkSet(t, x.patterns...)
	}
}

// 22.1: numbers of more than one byte: of states, of bytes, of a depth, and of where one leads.
func TestWideNumbers(t *testing.T) {
	p := strings.Repeat("x", 200)
	s := tab.Of(setOf(t, p)).Put()
	want := "tab\x01\xc9\x01\x01x"
	for n := range 200 {
		want += number(n) + number(n+1)
	}
	want += "\xc8\x01\xc8\x01"
	if s != want {
		t.Errorf("Put: %x; want %x", s, want)
	}
	s = tab.Of(setOf(t, all())).Put()
	if begin := "tab\x01\x81\x02\x80\x02" + all() + "\x00\x01\x00"; !strings.HasPrefix(s, begin) {
		t.Errorf("Put: %.300x; want %x …", s, begin)
	}
	checkSet(t, p)
	checkSet(t, all())
}

// 22.1, 22.2, 22.3, 22.4: all sets of few short patterns.
func TestShortSets(t *testing.T) {
	for _, some := range [][]string{
		texts("ab", 2)[1:],
		texts("ab", 3)[7:],
		texts("\x00\xff", 2)[1:],
		{"a", "ab", "abc", "ac", "abca", "bca", "cab", "cc"},
		{"a", "aabb", "aab", "abb", "bbab", "bba", "bbaaa", "z"},
		{"\x00", "\x00\x01\xff", "\x01\x00", "\x01\x02", "\xff\x00", "\xff\xfe\x00", "\xff\xff"},
		{"\xc3\xa4", "\xe2\x82\xac", "\xc3", "\xa4\xc3\xa4", "\x80"},
	} {
		subsets(some, func(l []string) {
			checkSet(t, l...)
		})
	}
}

// 22.1, 22.3: the rows of each of few sets fit that one, and no other one of other rows.
func TestFits(t *testing.T) {
	var sets []*pats.Set
	subsets([]string{"a", "aa", "ab", "ba", "bb", "c", "abc"}, func(l []string) {
		sets = append(sets, setOf(t, l...))
	})
	for _, l := range few() {
		sets = append(sets, setOf(t, l...))
	}
	for _, x := range sets {
		r, own := tab.Of(x), wordsOf(x.List()).bytes()
		for _, y := range sets {
			// Sets may have the same states, as that of ab and that of a, ab: these have the same rows.
			checkFits(t, r, y, own == wordsOf(y.List()).bytes())
		}
	}
	checkFits(t, tab.Of(setOf(t, "a", "ab")), setOf(t, "ab"), true)
	checkFits(t, tab.Of(setOf(t, "a", "ab")), setOf(t, "ab", "b"), false)
}

// 22.2, 22.3: rows that are taken, but of which a number is another one, or a byte, or of which a state lacks or is there twice, fit no more.
func TestFitsChanged(t *testing.T) {
	for _, l := range [][]string{{"a"}, {"ab", "b"}, {"he", "hers", "she"}, {"\x00\xff", "\xff"}, {"\xc3\xa4\xc3"}} {
		x, w := setOf(t, l...), wordsOf(l)
		other := func() words {
			o := words{own: w.own}
			for _, row := range w.rows {
				o.rows = append(o.rows, slices.Clone(row))
			}
			return o
		}
		check := func(o words) {
			t.Helper()
			r := takenOf(t, o.bytes())
			checkRows(t, r, o)
			checkFits(t, r, x, false)
		}
		for s, row := range w.rows {
			for i := range row {
				for n := range len(row) {
					o := other()
					o.rows[s][i] = n
					if n == row[i] || n >= len(w.rows) || i == 0 && (n == 0) != (s == 0) || i == 0 && s == 0 {
						continue
					}
					check(o)
				}
			}
		}
		last := other()
		last.rows = append(last.rows, slices.Clone(w.rows[len(w.rows)-1]))
		check(last)
		for i := range len(w.own) {
			for c := range 256 {
				b := []byte(w.own)
				b[i] = byte(c)
				o := other()
				o.own = string(b)
				if slices.IsSorted(b) && len(slices.Compact(slices.Clone(b))) == len(b) && o.own != w.own {
					check(o)
				}
			}
		}
		// One byte more, which leads to the root.
		o := other()
		o.own += "\xff"
		if strings.HasSuffix(w.own, "\xff") {
			continue
		}
		for s := range o.rows {
			o.rows[s] = append(o.rows[s], 0)
		}
		check(o)
	}
	// One byte, and one state, is missing.
	checkFits(t, takenOf(t, file(1, 0, "", 0)), setOf(t, "a"), false)
	checkFits(t, takenOf(t, file(1, 1, "a", 0, 0)), setOf(t, "a"), false)
	checkFits(t, takenOf(t, file(2, 0, "", 0, 1)), setOf(t, "a"), false)
	checkFits(t, takenOf(t, file(1, 1, "a", 0, 0)), nil, false)
	checkFits(t, takenOf(t, file(2, 0, "", 0, 1)), nil, false)
}

// 22.1, 22.2, 22.3: nil rows, and such as no call made, have no states; those of a nil set have the root, and no bytes.
func TestNil(t *testing.T) {
	var r *tab.Rows
	checkPut(t, r, "")
	checkFits(t, r, nil, false)
	checkFits(t, r, setOf(t, "a"), false)
	for _, r := range []*tab.Rows{nil, {}} {
		checkLen(t, r, 0)
		checkNoState(t, r)
		checkDepth(t, r, 0, 0)
		checkStep(t, r, 0, 'a', 0)
		checkFits(t, r, nil, false)
	}
	const put = "tab\x01\x01\x00\x00"
	for _, r := range []*tab.Rows{tab.Of(nil), takenOf(t, put)} {
		checkRows(t, r, words{rows: [][]int{{0}}})
		checkNoState(t, r)
		checkPut(t, r, put)
		checkFits(t, r, nil, true)
		checkFits(t, r, setOf(t, "a"), false)
	}
	checkRefused(t, "", api.ErrHead)
}

// 22.2: bytes that don't begin with Head, and those that end with it.
func TestHead(t *testing.T) {
	rest := "\x02\x01\x61\x00\x01\x01\x01"
	takenOf(t, head+rest)
	checkRefused(t, head, api.ErrShort)
	for n := range len(head) {
		checkRefused(t, head[:n], api.ErrHead)
		checkRefused(t, head[n+1:]+rest, api.ErrHead)
		checkRefused(t, head[:n]+head[n+1:]+rest, api.ErrHead)
		for c := range 256 {
			if byte(c) == head[n] {
				continue
			}
			other := head[:n] + string([]byte{byte(c)}) + head[n+1:]
			checkRefused(t, other, api.ErrHead)
			checkRefused(t, other+rest, api.ErrHead)
		}
	}
	for _, s := range []string{" " + head + rest, "TAB\x01" + rest, "tab" + rest, "tab\x02" + rest, "tab\x00" + rest, "jurat\x01" + rest, strings.Repeat("\x80", 9)} {
		checkRefused(t, s, api.ErrHead)
	}
	checkRefused(t, head+head, api.ErrShort)
}

// 22.2: which error there is, by examples, one at a time.
func TestFaults(t *testing.T) {
	high := func(n int) string { return strings.Repeat("\x80", n) }
	for _, x := range []struct {
		s    string
		want api.Errno
	}{
		// How many states there are.
		{head + high(1), api.ErrShort},
		{head + high(8), api.ErrShort},
		{head + high(9), api.ErrLong},
		{head + "\x81\x00\x00", api.ErrForm},
		{file(api.MaxTotal+2, 0, "", 0), api.ErrRange},
		{file(1<<32+1, 0, "", 0), api.ErrRange},
		{file(math.MaxInt, 0, "", 0), api.ErrRange},
		{file(api.MaxTotal+1, 0, "", 0), api.ErrShort},
		{file(0, 0, ""), api.ErrNone},
		{file(0, 1, "a"), api.ErrNone},
		// How many bytes.
		{head + "\x01", api.ErrShort},
		{head + "\x01" + high(1), api.ErrShort},
		{head + "\x01" + high(9), api.ErrLong},
		{head + "\x01\x80\x00", api.ErrForm},
		{file(1, 257, all()+"\xff", 0), api.ErrRange},
		{file(1, 1<<32, "", 0), api.ErrRange},
		{file(1, math.MaxInt, "", 0), api.ErrRange},
		// The bytes.
		{file(1, 1, ""), api.ErrShort},
		{file(1, 2, "a"), api.ErrShort},
		{file(1, 256, all()[1:]), api.ErrShort},
		{file(1, 2, "aa", 0, 0, 0), api.ErrOrder},
		{file(1, 2, "ba", 0, 0, 0), api.ErrOrder},
		{file(1, 3, "acb", 0, 0, 0, 0), api.ErrOrder},
		{file(1, 3, "aba", 0, 0, 0, 0), api.ErrOrder},
		{file(1, 3, "bac", 0, 0, 0, 0), api.ErrOrder},
		{file(1, 2, "\xff\x00", 0, 0, 0), api.ErrOrder},
		{file(1, 2, "\x80\x7f", 0, 0, 0), api.ErrOrder},
		{file(1, 256, all()[1:]+"\xff"), api.ErrOrder},
		// A depth.
		{file(1, 0, ""), api.ErrShort},
		{file(1, 0, "") + high(8), api.ErrShort},
		{file(1, 0, "") + high(9), api.ErrLong},
		{file(1, 0, "") + "\x80\x00", api.ErrForm},
		{file(2, 0, "", 0), api.ErrShort},
		{file(2, 0, "", 0) + high(9), api.ErrLong},
		{file(2, 0, "", 0) + "\x81\x00", api.ErrForm},
		{file(2, 0, "", 0, 65536), api.ErrRange},
		{file(2, 0, "", 0, 1<<32+1), api.ErrRange},
		{file(2, 0, "", 0, 1<<16+1), api.ErrRange},
		{file(2, 0, "", 0, math.MaxInt), api.ErrRange},
		{file(1, 0, "", 1), api.ErrForm},
		{file(1, 0, "", 65535), api.ErrForm},
		{file(2, 0, "", 0, 0), api.ErrForm},
		{file(3, 0, "", 0, 1, 0), api.ErrForm},
		{file(2, 0, "", 1, 0), api.ErrForm},
		// Where a byte leads.
		{file(1, 1, "a", 0), api.ErrShort},
		{file(1, 1, "a", 0) + high(8), api.ErrShort},
		{file(1, 1, "a", 0) + high(9), api.ErrLong},
		{file(1, 1, "a", 0) + "\x80\x00", api.ErrForm},
		{file(1, 1, "a", 0, 1), api.ErrRange},
		{file(2, 1, "a", 0, 2, 1, 0), api.ErrRange},
		{file(2, 1, "a", 0, 0, 1, 2), api.ErrRange},
		{file(2, 2, "ab", 0, 0, 2, 1, 0, 0), api.ErrRange},
		{file(2, 2, "ab", 0, 0, 0, 1, 2, 0), api.ErrRange},
		{file(1, 1, "a", 0, 1<<32), api.ErrRange},
		{file(1, 1, "a", 0, 1<<62), api.ErrRange},
		{file(1, 1, "a", 0, math.MaxInt), api.ErrRange},
		{file(2, 1, "a", 0, 1, 1), api.ErrShort},
		{file(2, 2, "ab", 0, 1, 1, 1, 1), api.ErrShort},
		// What is left.
		{file(1, 0, "", 0, 0), api.ErrMore},
		{file(1, 0, "", 0, 1), api.ErrMore},
		{file(2, 1, "a", 0, 1, 1, 1, 1), api.ErrMore},
		{file(2, 1, "a", 0, 1, 1, 1) + high(1), api.ErrMore},
		{file(2, 1, "a", 0, 1, 1, 1) + high(9), api.ErrMore},
		{file(1, 0, "", 0) + head, api.ErrMore},
	} {
		checkRefused(t, x.s, x.want)
		if _, e := wantTake(x.s); e != x.want {
			t.Errorf("the tests take %.60x for %v", x.s, e)
		}
	}
}

// 22.2, R2: where several errors apply, that which is read first is told, and of one part that which is named first.
func TestFirstFault(t *testing.T) {
	const needless, broken = "\x80\x00", "\x80"
	for _, x := range []struct {
		s    string
		want api.Errno
	}{
		{"tab\x02" + needless, api.ErrHead},
		{"tab", api.ErrHead},
		// The number of states, ahead of that of bytes.
		{head + needless + broken, api.ErrForm},
		{head + broken + needless, api.ErrForm},
		{file(0, 257, ""), api.ErrNone},
		{head + "\x00", api.ErrNone},
		{head + "\x00" + broken, api.ErrNone},
		{head + "\x00" + needless, api.ErrNone},
		{file(0, 2, "ba"), api.ErrNone},
		{file(api.MaxTotal+2, 2, "ba"), api.ErrRange},
		{head + number(api.MaxTotal+2), api.ErrRange},
		{head + number(api.MaxTotal+2) + needless, api.ErrRange},
		// The number of bytes, ahead of these.
		{file(1, 257, "ba"), api.ErrRange},
		{file(1, 257, ""), api.ErrRange},
		// Too few of them, ahead of their order.
		{file(1, 3, "ba"), api.ErrShort},
		{file(1, 3, "aa"), api.ErrShort},
		{file(1, 2, "b"), api.ErrShort},
		// Their order, ahead of the states.
		{file(1, 2, "ba"), api.ErrOrder},
		{file(1, 2, "ba") + needless, api.ErrOrder},
		{file(1, 2, "ba", 1), api.ErrOrder},
		{file(1, 2, "ba", 65536), api.ErrOrder},
		// A depth that is too great, ahead of that of the root, that is not 0.
		{file(1, 0, "", 65536), api.ErrRange},
		{file(1, 0, "", math.MaxInt), api.ErrRange},
		// A depth, ahead of where bytes lead.
		{file(1, 1, "a", 65536, 1), api.ErrRange},
		{file(1, 1, "a", 1, 1), api.ErrForm},
		{file(1, 1, "a", 1), api.ErrForm},
		{file(1, 1, "a", 1) + needless, api.ErrForm},
		{file(1, 1, "a", 1) + strings.Repeat("\x80", 9), api.ErrForm},
		{file(2, 1, "a", 0, 0, 0, 2), api.ErrForm},
		{file(2, 1, "a", 0, 0, 0), api.ErrForm},
		{file(2, 1, "a", 0, 0, 65536, 2), api.ErrRange},
		// A state, ahead of the next one.
		{file(2, 1, "a", 0, 2, 0, 0), api.ErrRange},
		{file(2, 1, "a", 0, 2), api.ErrRange},
		{file(2, 1, "a", 1, 2, 0, 0), api.ErrForm},
		{file(2, 1, "a", 0, 1, 0) + broken, api.ErrForm},
		{file(2, 2, "ab", 0, 2) + needless, api.ErrRange},
		{file(2, 2, "ab", 0) + broken, api.ErrShort},
		{file(2, 2, "ab", 0) + needless + number(2), api.ErrForm},
		// A state, ahead of what is left.
		{file(1, 1, "a", 0, 1, 0), api.ErrRange},
		{file(1, 0, "", 1, 0), api.ErrForm},
		{file(1, 0, "", 65536, 0), api.ErrRange},
	} {
		checkRefused(t, x.s, x.want)
		if _, e := wantTake(x.s); e != x.want {
			t.Errorf("the tests take %.60x for %v", x.s, e)
		}
	}
}

// 22.2, 22.4: all short texts of the bytes that rows' bytes are made of.
func TestShortTexts(t *testing.T) {
	for _, x := range []struct {
		some string
		most int
	}{
		{"\x00\x01\x02\x80", 8},
		{"\x00\x01\x02\x03a", 7},
		{"\x00\x01\x02ab\xff", 6},
	} {
		eachText(x.some, x.most, func(s string) { checkTake(t, head+s) })
	}
	eachText("\x00\x01\x02\x03\x80", 6, func(s string) { checkTake(t, head+"\x02\x01a"+s) })
	eachText("\x00\x01\x02\x03", 7, func(s string) { checkTake(t, head+"\x02\x02\x80\xff"+s) })
	eachText("\x00\x01\x02\x03", 7, func(s string) { checkTake(t, head+"\x03\x01\x00"+s) })
	eachText("tab\x01\x00", 6, func(s string) { checkTake(t, s) })
}

// 22.2, 22.4: bytes of rows, of which one is another one, or lacks, or is there twice, and such as are cut off, or cut out of.
func TestChanged(t *testing.T) {
	for _, l := range few() {
		s := wordsOf(l).bytes()
		checkTake(t, s)
		for i := range len(s) {
			for c := range 256 {
				// Most of a long pattern's numbers are alike.
				if len(s) > 300 && i > 20 && (i%19 > 0 || c%9 > 0) {
					continue
				}
				checkTake(t, s[:i]+string([]byte{byte(c)})+s[i+1:])
				checkTake(t, s[:i]+string([]byte{byte(c)})+s[i:])
			}
			checkTake(t, s[:i])
			checkTake(t, s[:i]+s[i+1:])
			checkTake(t, s[:i]+s[i:i+1]+s[i:])
		}
		for c := range 256 {
			checkRefused(t, s+string([]byte{byte(c)}), api.ErrMore)
		}
		checkRefused(t, s+s, api.ErrMore)
		for n := len(head); n < len(s); n++ {
			checkRefused(t, s[:n], api.ErrShort)
		}
	}
}

// 22.2, 22.3: rows that are no set's are taken too: states that none leads to, depths that jump, bytes that lead anywhere.
func TestAnyRows(t *testing.T) {
	for _, w := range []words{
		{rows: [][]int{{0}, {65535}, {1}}},
		{own: "a", rows: [][]int{{0, 0}, {7, 0}}},
		{own: "\x00\xff", rows: [][]int{{0, 2, 2}, {65535, 1, 1}, {1, 0, 1}}},
		{own: all(), rows: [][]int{append([]int{0}, make([]int, 256)...)}},
		{own: all()[1:], rows: [][]int{append([]int{0}, make([]int, 255)...)}},
	} {
		checkTake(t, w.bytes())
		checkNoState(t, takenOf(t, w.bytes()))
	}
	n := uint32(1)
	for states := range 40 {
		w := words{own: all()[states : 3*states+1]}
		for s := range states + 1 {
			row := []int{min(s, 1) * (1 + int(n>>8)%65535)}
			for range len(w.own) {
				n = n*1664525 + 1013904223
				row = append(row, int(n>>16)%(states+1))
			}
			w.rows = append(w.rows, row)
		}
		checkTake(t, w.bytes())
	}
}

// 22.1, 22.3: each byte, as the only one of the rows, and as the only one that they have not.
func TestEachByte(t *testing.T) {
	s := all()
	var singles []string
	for c := range 256 {
		p, next := s[c:c+1], string([]byte{byte(c + 1)})
		singles = append(singles, p)
		checkSet(t, p)
		checkSet(t, p+next, next+next+p)
		r := takenOf(t, file(2, 1, p, 0, 1, 1, 1))
		checkRows(t, r, words{p, [][]int{{0, 1}, {1, 1}}})
	}
	for _, c := range []int{0, 1, 127, 128, 254, 255} {
		checkSet(t, s[:c]+s[c+1:])
	}
	checkSet(t, singles...)
	checkSet(t, s, s[1:]+s[:1])
}

// 22.4: rows lead as the automaton does, of patterns of all bytes, and of such that end alike.
func TestAuto(t *testing.T) {
	own := mixed(all(), 300)
	checkAuto(t, nil)
	checkAuto(t, setOf(t, "he", "hers", "his", "she", own, own[100:]+own[:99], own[7:55], own[55:], mixed("hers", 500), mixed("hei", 700)))
	for _, l := range few() {
		checkAuto(t, setOf(t, l...))
	}
}

// 22.1, 22.2: the longest pattern, of like bytes, and of two, of which one alone falls back far.
func TestLong(t *testing.T) {
	const n = api.MaxPattern
	x := setOf(t, strings.Repeat("a", n))
	r := tab.Of(x)
	for _, same := range []*tab.Rows{r, takenOf(t, r.Put())} {
		checkLen(t, same, n+1)
		for s := range n + 1 {
			checkDepth(t, same, s, s)
			checkStep(t, same, s, 'a', min(s+1, n))
			checkStep(t, same, s, 'b', 0)
		}
		checkNoState(t, same)
		checkFits(t, same, x, true)
		checkFits(t, same, setOf(t, strings.Repeat("a", n-1)), false)
	}
	var l []int
	for s := range n {
		l = append(l, s, s+1)
	}
	checkPut(t, r, file(n+1, 1, "a", append(l, n, n)...))
	checkRefused(t, file(n+2, 1, "a", append(l, n, n, n+1, n)...), api.ErrRange)
	takenOf(t, file(n+2, 1, "a", append(l, n, n, n, n)...))

	x = setOf(t, strings.Repeat("a", n-1)+"b")
	r = takenOf(t, tab.Of(x).Put())
	for s := range n {
		checkStep(t, r, s, 'a', min(s+1, n-1))
	}
	checkStep(t, r, n-1, 'b', n)
	checkStep(t, r, n-2, 'b', 0)
	checkStep(t, r, n, 'a', 1)
	checkFits(t, r, x, true)
	checkFits(t, r, setOf(t, strings.Repeat("a", n-1)+"c"), false)
}

// 22.1, 22.2: the most patterns, all of two bytes: the number of each state tells its bytes.
func TestMostPatterns(t *testing.T) {
	var l []string
	for i := range api.MaxPatterns {
		l = append(l, string([]byte{byte(i >> 8), byte(i)}))
	}
	x := setOf(t, l...)
	put := tab.Of(x)
	r := takenOf(t, put.Put())
	checkLen(t, r, 257+api.MaxPatterns)
	for i := range l {
		s := 257 + i
		checkDepth(t, r, s, 2)
		checkStep(t, r, 1+i>>8, byte(i), s)
		checkStep(t, r, s, 7, 257+i&255<<8+7)
		checkStep(t, put, s, 7, 257+i&255<<8+7)
	}
	// The two bytes that are no pattern lead no further than one.
	checkStep(t, r, 256, 255, 256)
	checkNoState(t, r)
	checkFits(t, r, x, true)
	checkFits(t, r, setOf(t, l[1:]...), false)
}

// 22.2: as many states as there may be, and one more; the greatest number that a byte leads to.
func TestMostStates(t *testing.T) {
	const n = api.MaxTotal + 1
	var b strings.Builder
	b.WriteString(file(n, 1, "z", 0, n-1))
	for range n - 1 {
		b.WriteString("\x01\x00")
	}
	s := b.String()
	r := takenOf(t, s)
	checkLen(t, r, n)
	checkStep(t, r, 0, 'z', n-1)
	checkStep(t, r, n-1, 'z', 0)
	checkDepth(t, r, n-1, 1)
	checkDepth(t, r, n, 0)
	checkNoState(t, r)
	if r.Put() != s {
		t.Error("what is put is not what was taken")
	}
	checkRefused(t, s[:len(s)-1], api.ErrShort)
	checkRefused(t, s+"\x00", api.ErrMore)
	checkRefused(t, file(n+1, 0, "", 0)+strings.Repeat("\x01", n), api.ErrRange)
	checkRefused(t, file(n, 0, "", 0)+strings.Repeat("\x01", n), api.ErrMore)
	checkRefused(t, file(n, 0, "", 0)+strings.Repeat("\x01", n-2), api.ErrShort)
	checkLen(t, takenOf(t, file(n, 0, "", 0)+strings.Repeat("\x01", n-1)), n)
}

// R1, 22.2: few bytes that tell of many states are refused by little work, in little room, whatever is wrong behind them.
func TestSaid(t *testing.T) {
	var ahead, behind runtime.MemStats
	runtime.ReadMemStats(&ahead)
	for range 100 {
		for _, end := range []string{"", "\x00", "\x01", "\x80\x00", "\x00\xff\xff\xff\xff\x0f"} {
			_, want := wantTake(file(api.MaxTotal+1, 256, all()) + end)
			checkRefused(t, file(api.MaxTotal+1, 256, all())+end, want)
		}
	}
	runtime.ReadMemStats(&behind)
	if n := behind.TotalAlloc - ahead.TotalAlloc; n > 1<<24 {
		t.Errorf("500 calls take %d bytes of room", n)
	}
}

// R4: rows that are taken keep no piece of the bytes that were handed in.
func TestKept(t *testing.T) {
	// Bytes that are few may lie in one piece of memory with others.
	b := append(make([]byte, 0, 999), file(2, 1, "a", 0, 1, 1, 1)...)
	whole := weak.Make(&b[0])
	r := takenOf(t, unsafe.String(&b[0], len(b)))
	b = nil
	for range 3 {
		runtime.GC()
	}
	if whole.Value() != nil {
		t.Error("the bytes that were handed in are kept")
	}
	checkRows(t, r, wordsOf([]string{"a"}))
}

// R3, R4, R5: the same again, whatever was refused; rows know nothing of each other, and the set stays as it is.
func TestAgain(t *testing.T) {
	l := []string{"ab", "b"}
	x, w := setOf(t, l...), wordsOf(l)
	r, taken := tab.Of(x), takenOf(t, w.bytes())
	for range 3 {
		other := tab.Of(setOf(t, "aaa"))
		checkPut(t, other, wordsOf([]string{"aaa"}).bytes())
		checkRefused(t, w.bytes()+"\x00", api.ErrMore)
		checkRefused(t, w.bytes()[:9], api.ErrShort)
		for _, same := range []*tab.Rows{r, taken, tab.Of(x), takenOf(t, w.bytes())} {
			checkRows(t, same, w)
			checkFits(t, same, x, true)
			checkFits(t, same, setOf(t, "aaa"), false)
			checkRows(t, same, w)
		}
		if !slices.Equal(x.List(), l) {
			t.Fatalf("the set is now %q", x.List())
		}
	}
}
