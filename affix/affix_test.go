package affix_test

import (
	"slices"
	"strconv"
	"strings"
	"testing"

	"jurat/affix"
)

// all is all bytes, from the least one on.
func all() string {
	var b []byte
	for c := range 256 {
		b = append(b, byte(c))
	}
	return string(b)
}

// texts is all texts of at most so many bytes out of some, the shortest first.
func texts(some string, most int) []string {
	l := []string{""}
	for i := 0; i < len(l); i++ {
		if len(l[i]) == most {
			continue
		}
		for k := range len(some) {
			l = append(l, l[i]+some[k:k+1])
		}
	}
	return l
}

// lists calls f with each list of at most so many texts out of some.
func lists(some []string, most int, f func([]string)) {
	var grow func([]string)
	grow = func(l []string) {
		f(slices.Clone(l))
		if len(l) == most {
			return
		}
		for _, s := range some {
			grow(append(slices.Clone(l), s))
		}
	}
	grow(nil)
}

// wantPrefix is how long the longest text is with which both begin.
func wantPrefix(a, b string) int {
	longest := 0
	for n := range len(a) + 1 {
		if n <= len(b) && a[:n] == b[:n] {
			longest = n
		}
	}
	return longest
}

// wantSuffix is how long the longest text is with which both end.
func wantSuffix(a, b string) int {
	longest := 0
	for n := range len(a) + 1 {
		if n <= len(b) && a[len(a)-n:] == b[len(b)-n:] {
			longest = n
		}
	}
	return longest
}

// wantCompare is the order of two texts, as the chapter words it.
func wantCompare(a, b string) int {
	n := wantPrefix(a, b)
	switch {
	case n == len(a) && n == len(b):
		return 0
	case n == len(a):
		return -1
	case n == len(b):
		return 1
	case int(a[n]) < int(b[n]):
		return -1
	}
	return 1
}

// isOrder is whether no text of a list stands behind one that comes after it, each two asked.
func isOrder(l []string) bool {
	for i, b := range l {
		for _, a := range l[:i] {
			if wantCompare(a, b) > 0 {
				return false
			}
		}
	}
	return true
}

// counts is how often each text is there.
func counts(l []string) map[string]int {
	n := map[string]int{}
	for _, s := range l {
		n[s]++
	}
	return n
}

// wantPlace is how many texts come ahead of one, and whether it is one of them, each asked.
func wantPlace(l []string, s string) (int, bool) {
	n, ok := 0, false
	for _, x := range l {
		switch wantCompare(x, s) {
		case -1:
			n++
		case 0:
			ok = true
		}
	}
	return n, ok
}

// wantTwice is the first place at which a text stands that stands ahead of it, too, each two asked.
func wantTwice(l []string) int {
	for i, b := range l {
		for _, a := range l[:i] {
			if a == b {
				return i
			}
		}
	}
	return -1
}

// wantShared is with how many bytes each text begins as the one ahead of it does.
func wantShared(l []string) []int {
	var shared []int
	for i := range l {
		n := 0
		if i > 0 {
			n = wantPrefix(l[i-1], l[i])
		}
		shared = append(shared, n)
	}
	return shared
}

func checkPrefix(t *testing.T, a, b string, want int) {
	t.Helper()
	if n := affix.Prefix(a, b); n != want {
		t.Errorf("Prefix(%.40q, %.40q): %d; want %d", a, b, n, want)
	}
}

func checkSuffix(t *testing.T, a, b string, want int) {
	t.Helper()
	if n := affix.Suffix(a, b); n != want {
		t.Errorf("Suffix(%.40q, %.40q): %d; want %d", a, b, n, want)
	}
}

func checkBegins(t *testing.T, s, x string, want bool) {
	t.Helper()
	if ok := affix.Begins(s, x); ok != want {
		t.Errorf("Begins(%.40q, %.40q): %v; want %v", s, x, ok, want)
	}
}

func checkEnds(t *testing.T, s, x string, want bool) {
	t.Helper()
	if ok := affix.Ends(s, x); ok != want {
		t.Errorf("Ends(%.40q, %.40q): %v; want %v", s, x, ok, want)
	}
}

func checkCompare(t *testing.T, a, b string, want int) {
	t.Helper()
	if n := affix.Compare(a, b); n != want {
		t.Errorf("Compare(%.40q, %.40q): %d; want %d", a, b, n, want)
	}
}

func checkSorted(t *testing.T, l, want []string) {
	t.Helper()
	if sorted := affix.Sorted(l); !slices.Equal(sorted, want) {
		t.Errorf("Sorted(%.40q): %.40q; want %.40q", l, sorted, want)
	}
}

func checkPlace(t *testing.T, l []string, s string, want int, wok bool) {
	t.Helper()
	if n, ok := affix.Place(l, s); n != want || ok != wok {
		t.Errorf("Place(%.40q, %.40q): %d, %v; want %d, %v", l, s, n, ok, want, wok)
	}
}

func checkTwice(t *testing.T, l []string, want int) {
	t.Helper()
	if i := affix.Twice(l); i != want {
		t.Errorf("Twice(%.40q): %d; want %d", l, i, want)
	}
}

func checkShared(t *testing.T, l []string, want []int) {
	t.Helper()
	if shared := affix.Shared(l); !slices.Equal(shared, want) {
		t.Errorf("Shared(%.40q): %v; want %v", l, shared, want)
	}
}

// checkPair asks of two texts all that 9.1 tells of them.
func checkPair(t *testing.T, a, b string) {
	t.Helper()
	begin, end := wantPrefix(a, b), wantSuffix(a, b)
	checkPrefix(t, a, b, begin)
	checkSuffix(t, a, b, end)
	checkBegins(t, a, b, begin == len(b))
	checkEnds(t, a, b, end == len(b))
	checkCompare(t, a, b, wantCompare(a, b))
}

// checkList asks of texts all that 9.2 tells of them, but for places, and is them in order.
func checkList(t *testing.T, l []string) []string {
	t.Helper()
	sorted := affix.Sorted(l)
	had, has := counts(l), counts(sorted)
	if !isOrder(sorted) || len(sorted) != len(l) || len(had) != len(has) {
		t.Errorf("Sorted(%.40q): %.40q", l, sorted)
	}
	for s, n := range had {
		if has[s] != n {
			t.Errorf("Sorted(%.40q): %.40q; want %q %d times", l, sorted, s, n)
		}
	}
	checkTwice(t, l, wantTwice(l))
	checkShared(t, l, wantShared(l))
	return sorted
}

// checkNeighbours asks of texts in order what follows, by 9.3: two share no more than each two neighbours between them.
func checkNeighbours(t *testing.T, l []string) {
	t.Helper()
	shared := affix.Shared(l)
	for i, a := range l {
		least := len(a)
		for j := i + 1; j < len(l); j++ {
			least = min(least, shared[j])
			if n := affix.Prefix(a, l[j]); n > least {
				t.Errorf("of %.40q, %q and %q share %d bytes; want at most %d", l, a, l[j], n, least)
			}
		}
	}
}

// 9.1: with how many bytes two texts begin alike, by examples: also all of one, and all of both.
func TestPrefix(t *testing.T) {
	for _, x := range []struct {
		a, b string
		n    int
	}{
		{"", "", 0},
		{"", "a", 0},
		{"a", "", 0},
		{"a", "a", 1},
		{"a", "b", 0},
		{"ab", "abc", 2},
		{"abc", "ab", 2},
		{"abc", "abd", 2},
		{"abc", "axc", 1},
		{"abab", "abab", 4},
		{"xab", "ab", 0},
		{"a\x00", "a", 1},
		{"\xff\xfe", "\xff\x7e", 1},
		{"\u00e4", "\u00e5", 1},
	} {
		checkPrefix(t, x.a, x.b, x.n)
	}
}

// 9.1: with how many bytes two texts end alike, by examples: also all of one, and all of both.
func TestSuffix(t *testing.T) {
	for _, x := range []struct {
		a, b string
		n    int
	}{
		{"", "", 0},
		{"", "a", 0},
		{"a", "", 0},
		{"a", "a", 1},
		{"a", "b", 0},
		{"bc", "abc", 2},
		{"abc", "bc", 2},
		{"abc", "xbc", 2},
		{"abc", "axc", 1},
		{"abab", "abab", 4},
		{"abx", "ab", 0},
		{"aba", "a", 1},
		{"\x00a", "a", 1},
		{"\xfe\xff", "\x7e\xff", 1},
		{"\u00e4", "\u0124", 1},
	} {
		checkSuffix(t, x.a, x.b, x.n)
	}
}

// 9.1: whether a text begins, or ends, with another one, by examples: with the empty one, and itself, each does.
func TestBeginsEnds(t *testing.T) {
	for _, x := range []struct {
		s, x        string
		begin, ends bool
	}{
		{"", "", true, true},
		{"", "a", false, false},
		{"a", "", true, true},
		{"a", "a", true, true},
		{"a", "b", false, false},
		{"abc", "ab", true, false},
		{"abc", "bc", false, true},
		{"abc", "b", false, false},
		{"ab", "abc", false, false},
		{"bc", "abc", false, false},
		{"aba", "a", true, true},
		{"abab", "ab", true, true},
		{"abc", "ac", false, false},
		{"a\x00", "a\x00", true, true},
		{"a", "a\x00", false, false},
		{"\u00e4", "\xc3", true, false},
		{"\u00e4", "\xa4", false, true},
	} {
		checkBegins(t, x.s, x.x, x.begin)
		checkEnds(t, x.s, x.x, x.ends)
	}
}

// 9.1: the order of texts, by examples: the one with which the other begins, then the lesser byte; not by length, nor by runes, nor by letters.
func TestCompare(t *testing.T) {
	for _, x := range []struct {
		a, b string
		n    int
	}{
		{"ab", "abc", -1},
		{"abc", "ab", 1},
		{"ab", "ab", 0},
		{"", "", 0},
		{"", "\x00", -1},
		{"\x00", "", 1},
		{"a", "b", -1},
		{"b", "ab", 1},
		{"aaaa", "b", -1},
		{"abz", "acaaa", -1},
		{"a\x00", "a", 1},
		{"\x7f", "\x80", -1},
		{"\xff", "\x01", 1},
		{"\x80", "\xff", -1},
		{"a\xff", "b\x00", -1},
		{"B", "a", -1},
		{"10", "9", -1},
		{"\uffff", "\U00010000", -1},
		{"z", "\u00e4", -1},
	} {
		checkCompare(t, x.a, x.b, x.n)
	}
}

// 9.2: texts in order, by examples: each as often as it is there, the empty one among them.
func TestSorted(t *testing.T) {
	for _, x := range []struct{ l, want []string }{
		{[]string{"b", "ab", "a", "ab"}, []string{"a", "ab", "ab", "b"}},
		{nil, nil},
		{[]string{}, nil},
		{[]string{""}, []string{""}},
		{[]string{"a", "", "a", ""}, []string{"", "", "a", "a"}},
		{[]string{"abc", "ab", "abb", "b", "a"}, []string{"a", "ab", "abb", "abc", "b"}},
		{[]string{"\xff", "\x80", "\x7f", "\x00", ""}, []string{"", "\x00", "\x7f", "\x80", "\xff"}},
		{[]string{"9", "10", "B", "a", "A"}, []string{"10", "9", "A", "B", "a"}},
	} {
		checkSorted(t, x.l, x.want)
	}
}

// 9.2: places, by examples: how many come ahead is told of a text that is not there, too; of one that is there oftener none of them is counted.
func TestPlace(t *testing.T) {
	l := []string{"a", "ab", "ab", "ab", "b"}
	for _, x := range []struct {
		l  []string
		s  string
		n  int
		ok bool
	}{
		{l, "", 0, false},
		{l, "a", 0, true},
		{l, "aa", 1, false},
		{l, "ab", 1, true},
		{l, "ab\x00", 4, false},
		{l, "aba", 4, false},
		{l, "b", 4, true},
		{l, "b\x00", 5, false},
		{l, "\xff", 5, false},
		{l, "A", 0, false},
		{nil, "", 0, false},
		{nil, "a", 0, false},
		{[]string{}, "a", 0, false},
		{[]string{""}, "", 0, true},
		{[]string{"", ""}, "", 0, true},
		{[]string{"", ""}, "a", 2, false},
		{[]string{"a"}, "", 0, false},
		{[]string{"a", "a"}, "a", 0, true},
		{[]string{"\x7f", "\x80"}, "\x80", 1, true},
	} {
		checkPlace(t, x.l, x.s, x.n, x.ok)
	}
}

// 9.2: the first text that stands ahead, too, by examples: its own place, not that of the one ahead.
func TestTwice(t *testing.T) {
	for _, x := range []struct {
		l []string
		n int
	}{
		{[]string{"a", "b", "a"}, 2},
		{nil, -1},
		{[]string{}, -1},
		{[]string{"a"}, -1},
		{[]string{""}, -1},
		{[]string{"", ""}, 1},
		{[]string{"", "a", ""}, 2},
		{[]string{"a", "a", "a"}, 1},
		{[]string{"a", "b", "b", "a"}, 2},
		{[]string{"b", "a", "c", "a", "b"}, 3},
		{[]string{"a", "ab", "abc", "b", "A", "a\x00"}, -1},
		{[]string{"\xff", "\xfe", "\xff"}, 2},
	} {
		checkTwice(t, x.l, x.n)
	}
}

// 9.2: what neighbours share, by examples: of texts that are in no order, too; the first one shares nothing.
func TestShared(t *testing.T) {
	for _, x := range []struct {
		l    []string
		want []int
	}{
		{[]string{"ab", "abc", "b"}, []int{0, 2, 0}},
		{nil, nil},
		{[]string{}, nil},
		{[]string{""}, []int{0}},
		{[]string{"abc"}, []int{0}},
		{[]string{"abc", "ab", "abc"}, []int{0, 2, 2}},
		{[]string{"ab", "ab", "ab"}, []int{0, 2, 2}},
		{[]string{"ab", "", "ab"}, []int{0, 0, 0}},
		{[]string{"b", "abx", "aby", "b"}, []int{0, 0, 2, 0}},
		{[]string{"xab", "ab"}, []int{0, 0}},
	} {
		checkShared(t, x.l, x.want)
	}
}

// 9.1: all short texts of few bytes against each other.
func TestShortPairs(t *testing.T) {
	for _, some := range [][]string{texts("ab", 7), texts("\x00a\xff", 4), texts("\x00\x7f\x80\xff", 3), texts("a", 20)} {
		for _, a := range some {
			for _, b := range some {
				checkPair(t, a, b)
			}
		}
	}
}

// 9.1: all bytes against each other, alone, and ahead of, between and behind like ones.
func TestBytes(t *testing.T) {
	s := all()
	for i := range 256 {
		for j := range 256 {
			x, y := s[i:i+1], s[j:j+1]
			checkPair(t, x, y)
			checkPair(t, x+"b", y+"a")
			checkPair(t, "b"+x, "a"+y)
			checkPair(t, "a"+x+"b", "a"+y+"b")
		}
		checkPair(t, s, s[i:])
		checkPair(t, s[:i], s)
	}
}

// 9.2: all short lists of short texts, and in them, put in order, the places of all that are there or are not.
func TestShortLists(t *testing.T) {
	for _, x := range []struct {
		some, asked []string
		most        int
	}{
		{texts("ab", 2), texts("ab", 3), 4},
		{[]string{"", "a", "b"}, texts("ab", 2), 7},
		{[]string{"", "\x00", "\x7f", "\x80", "\x80\x00", "\xff"}, texts("\x00\x7f\x80\xff", 2), 4},
	} {
		lists(x.some, x.most, func(l []string) {
			sorted := checkList(t, l)
			checkNeighbours(t, sorted)
			for _, s := range x.asked {
				n, ok := wantPlace(sorted, s)
				checkPlace(t, sorted, s, n, ok)
			}
		})
	}
}

// 9.2, P1: places in texts that are in no order are told somehow, but by a call that ends.
func TestPlaceDisorder(t *testing.T) {
	lists([]string{"", "a", "ab", "b"}, 5, func(l []string) {
		for _, s := range []string{"", "a", "aa", "b", "c"} {
			if n, _ := affix.Place(l, s); n < 0 || n > len(l) {
				t.Errorf("Place(%q, %q): %d", l, s, n)
			}
		}
	})
}

// 9.3: the order is one: of two unlike texts one comes first, and of three there is no ring.
func TestOrder(t *testing.T) {
	for _, some := range [][]string{texts("ab", 4), texts("\x00a\xff", 3), texts("\x00\x7f\x80\xff", 2)} {
		for _, a := range some {
			for _, b := range some {
				n := affix.Compare(a, b)
				if (n == 0) != (a == b) || affix.Compare(b, a) != -n {
					t.Errorf("%q and %q compare as %d, and as %d", a, b, n, affix.Compare(b, a))
				}
				for _, c := range some {
					if n < 0 && affix.Compare(b, c) < 0 && affix.Compare(a, c) >= 0 {
						t.Errorf("%q, %q and %q are a ring", a, b, c)
					}
				}
			}
		}
	}
}

// 9.3: what neighbours share, of all short texts in order, and that the order hangs on nothing but the texts.
func TestNeighbours(t *testing.T) {
	for _, some := range [][]string{texts("ab", 6), texts("\x00a\xff", 4), texts("\x00\x7f\x80\xff", 3)} {
		sorted := checkList(t, some)
		checkNeighbours(t, sorted)
		slices.Reverse(some)
		checkSorted(t, some, sorted)
		checkSorted(t, sorted, sorted)
		for i, s := range sorted {
			checkPlace(t, sorted, s, i, true)
			// Of all texts it comes next, so that it is there, or stands right behind.
			next := s + "\x00"
			checkPlace(t, sorted, next, i+1, slices.Contains(sorted, next))
		}
	}
}

// 9.1: long texts that are alike for long, from either side.
func TestLong(t *testing.T) {
	const n = 1 << 20
	a := strings.Repeat("a", n)
	checkPrefix(t, a, a, n)
	checkSuffix(t, a, a, n)
	checkPrefix(t, a+"b", a+"c", n)
	checkSuffix(t, "b"+a, "c"+a, n)
	checkPrefix(t, a, a+a, n)
	checkSuffix(t, a, a+a, n)
	checkPrefix(t, "b"+a, a, 0)
	checkSuffix(t, a+"b", a, 0)
	checkBegins(t, a+"b", a, true)
	checkBegins(t, a, a+"b", false)
	checkEnds(t, "b"+a, a, true)
	checkEnds(t, a, "b"+a, false)
	checkCompare(t, a, a+"\x00", -1)
	checkCompare(t, a+"b", a+a, 1)
	checkCompare(t, a+"\x7f", a+"\x80", -1)
	checkCompare(t, a+"x", a+"x", 0)
	checkTwice(t, []string{a, a + "b", "b" + a, a[1:], a}, 4)
	checkShared(t, []string{a, a + "b", a + "c"}, []int{0, n, n})
}

// 9.2: many texts, such as would take time without end if each were held against each other one. (Such lists are not told where a call fails.)
func TestMany(t *testing.T) {
	const n = 1 << 17
	var l []string
	for i := range n {
		l = append(l, strconv.Itoa(n+i))
	}
	backward := slices.Clone(l)
	slices.Reverse(backward)
	if !slices.Equal(affix.Sorted(backward), l) || !slices.Equal(affix.Sorted(l), l) {
		t.Fatal("Sorted: not in order")
	}
	if i, j := affix.Twice(l), affix.Twice(append(slices.Clone(l), backward...)); i != -1 || j != n {
		t.Fatalf("Twice: %d, %d; want -1, %d", i, j, n)
	}
	shared := affix.Shared(l)
	for i, s := range l {
		if i > 0 && shared[i] != wantPrefix(l[i-1], s) {
			t.Fatalf("Shared: %d of %q and %q", shared[i], l[i-1], s)
		}
		if k, ok := affix.Place(l, s); k != i || !ok {
			t.Fatalf("Place of %q: %d, %v; want %d", s, k, ok, i)
		}
		if k, ok := affix.Place(l, s+"x"); k != i+1 || ok {
			t.Fatalf("Place of %q: %d, %v; want %d", s+"x", k, ok, i+1)
		}
	}
}

// 9.2: the same text, many times.
func TestManySame(t *testing.T) {
	const n = 1 << 17
	same := slices.Repeat([]string{"ab"}, n)
	if !slices.Equal(affix.Sorted(same), same) {
		t.Error("Sorted: not each as often as it was there")
	}
	if i := affix.Twice(same); i != 1 {
		t.Errorf("Twice: %d; want 1", i)
	}
	if k, ok := affix.Place(same, "ab"); k != 0 || !ok {
		t.Errorf("Place of one that is there: %d, %v; want 0", k, ok)
	}
	if k, ok := affix.Place(same, "abc"); k != n || ok {
		t.Errorf("Place of one behind all: %d, %v; want %d", k, ok, n)
	}
}

// R4: what is handed in is not changed, and what lies behind its length is neither read nor written.
func TestArguments(t *testing.T) {
	l := []string{"b", "ab", "a", "ab", "a"}
	want := slices.Clone(l)
	checkSorted(t, l[:3], []string{"a", "ab", "b"})
	checkTwice(t, l[:3], -1)
	checkTwice(t, l[:4], 3)
	checkShared(t, l[:3], []int{0, 0, 1})
	checkSorted(t, l[:0], nil)
	checkShared(t, l[:0], nil)
	checkTwice(t, l[:0], -1)
	if !slices.Equal(l, want) {
		t.Errorf("what was handed in is now %q", l)
	}
	order := []string{"a", "b", "c", "d"}
	checkPlace(t, order[:2], "d", 2, false)
	checkPlace(t, order[:2], "c", 2, false)
	checkPlace(t, order[:0], "a", 0, false)
	if !slices.Equal(order, []string{"a", "b", "c", "d"}) {
		t.Errorf("what was handed in is now %q", order)
	}
}

// R4: lists that are answered share no memory, with one another or with what was handed in.
func TestMemory(t *testing.T) {
	l := []string{"a", "ab", "b"}
	a, b := affix.Sorted(l), affix.Sorted(l)
	clear(a[:cap(a)])
	none := affix.Sorted(l[:0])
	clear(none[:cap(none)])
	if !slices.Equal(b, []string{"a", "ab", "b"}) || !slices.Equal(l, b) {
		t.Errorf("lists of Sorted share memory: %q, of %q", b, l)
	}
	n, m := affix.Shared(l), affix.Shared(l)
	clear(n[:cap(n)])
	if !slices.Equal(m, []int{0, 1, 0}) {
		t.Errorf("lists of Shared share memory: %v", m)
	}
}

// R5: the same again.
func TestAgain(t *testing.T) {
	for range 3 {
		checkPair(t, "xab", "ab")
		checkSorted(t, []string{"b", "ab", "a", "ab"}, []string{"a", "ab", "ab", "b"})
		checkPlace(t, []string{"a", "ab", "ab", "b"}, "ab", 1, true)
		checkTwice(t, []string{"a", "b", "c", "b", "a"}, 3)
		checkShared(t, []string{"ab", "abc", "b"}, []int{0, 2, 0})
	}
}
