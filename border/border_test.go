package border_test

import (
	"slices"
	"strings"
	"testing"

	"jurat/border"
)

// all is all bytes, from the least one on.
func all() string {
	var b []byte
	for c := range 256 {
		b = append(b, byte(c))
	}
	return string(b)
}

// texts calls f with each text of at most so many bytes out of some.
func texts(some string, most int, f func(string)) {
	var grow func(string)
	grow = func(s string) {
		f(s)
		if len(s) == most {
			return
		}
		for i := range len(some) {
			grow(s + some[i:i+1])
		}
	}
	grow("")
}

// wantBorders is how long the borders of a text are, as the chapter words it: shorter texts, not empty, with which it begins and ends.
func wantBorders(s string) []int {
	var l []int
	for n := len(s) - 1; n > 0; n-- {
		if strings.HasPrefix(s, s[len(s)-n:]) {
			l = append(l, n)
		}
	}
	return l
}

// wantTable is the longest borders of all beginnings of a text.
func wantTable(s string) []int {
	var l []int
	for n := range len(s) + 1 {
		l = append(l, slices.Max(append(wantBorders(s[:n]), 0)))
	}
	return l
}

// isPeriod is whether a number is a period of a text, as the chapter words it: byte by byte.
func isPeriod(s string, p int) bool {
	for i := 0; i+p < len(s); i++ {
		if s[i] != s[i+p] {
			return false
		}
	}
	return 1 <= p && p <= len(s)
}

// wantPeriod is the least of the periods of a text.
func wantPeriod(s string) int {
	for p := range len(s) + 1 {
		if isPeriod(s, p) {
			return p
		}
	}
	return 0
}

// wantWhole is whether one of the shorter texts with which a text begins is the text, if it is put down twice or oftener.
func wantWhole(s string) bool {
	for n := 1; n < len(s); n++ {
		for several := s[:n]; len(several) < len(s); {
			several += s[:n]
			if several == s {
				return true
			}
		}
	}
	return false
}

// wantReach is how long the longest of all texts is with which a ends and b begins.
func wantReach(a, b string) int {
	longest := 0
	for n := range len(a) + 1 {
		if strings.HasPrefix(b, a[len(a)-n:]) {
			longest = n
		}
	}
	return longest
}

// wantFind is the places of a text at which another one stands, each asked.
func wantFind(s, t string) []int {
	var l []int
	for i := range len(s) {
		if t != "" && strings.HasPrefix(s[i:], t) {
			l = append(l, i)
		}
	}
	return l
}

func checkTable(t *testing.T, s string, want []int) {
	t.Helper()
	if l := border.Table(s); !slices.Equal(l, want) {
		t.Errorf("Table(%.40q): %v; want %v", s, l, want)
	}
}

func checkAll(t *testing.T, s string, want []int) {
	t.Helper()
	if l := border.All(s); !slices.Equal(l, want) {
		t.Errorf("All(%.40q): %v; want %v", s, l, want)
	}
}

func checkPeriod(t *testing.T, s string, want int) {
	t.Helper()
	if p := border.Period(s); p != want {
		t.Errorf("Period(%.40q): %d; want %d", s, p, want)
	}
}

func checkWhole(t *testing.T, s string, want bool) {
	t.Helper()
	if ok := border.Whole(s); ok != want {
		t.Errorf("Whole(%.40q): %v; want %v", s, ok, want)
	}
}

func checkReach(t *testing.T, a, b string, want int) {
	t.Helper()
	if n := border.Reach(a, b); n != want {
		t.Errorf("Reach(%.40q, %.40q): %d; want %d", a, b, n, want)
	}
}

func checkFind(t *testing.T, s, x string, want []int) {
	t.Helper()
	if l := border.Find(s, x); !slices.Equal(l, want) {
		t.Errorf("Find(%.40q, %.40q): %v; want %v", s, x, l, want)
	}
}

// checkText asks of a text all that 8.1 tells of it.
func checkText(t *testing.T, s string) {
	t.Helper()
	checkTable(t, s, wantTable(s))
	checkAll(t, s, wantBorders(s))
	checkPeriod(t, s, wantPeriod(s))
	checkWhole(t, s, wantWhole(s))
}

// checkFollows asks of a text what follows, by 8.3.
func checkFollows(t *testing.T, s string) {
	t.Helper()
	borders := border.All(s)
	longest := 0
	for i, n := range borders {
		longest = max(longest, n)
		if of := border.All(s[:n]); !slices.Equal(of, borders[i+1:]) {
			t.Errorf("borders of %q: %v; of the one of %d bytes: %v", s, borders, n, of)
		}
	}
	if p := border.Period(s); p+longest != len(s) {
		t.Errorf("the least period of %q is %d, its longest border has %d bytes", s, p, longest)
	}
	if table := border.Table(s); table[len(s)] != longest {
		t.Errorf("the table of %q is %v, its longest border has %d bytes", s, table, longest)
	}
}

// checkPlaces asks whether, by 8.3, places at which a text stands, overlapping, differ by a period of it, and whether each period is such a difference where it stands twice.
func checkPlaces(t *testing.T, s, x string) {
	t.Helper()
	places := border.Find(s, x)
	for i, from := range places {
		for _, to := range places[i+1:] {
			if d := to - from; d < len(x) && !isPeriod(x, d) {
				t.Errorf("%q stands in %q at %d and %d, but %d is no period of it", x, s, from, to, d)
			}
		}
	}
	for _, n := range border.All(x) {
		twice := x + x[n:]
		if l := border.Find(twice, x); !slices.Contains(l, 0) || !slices.Contains(l, len(x)-n) {
			t.Errorf("%q stands in %q at %v; want 0 and %d among them", x, twice, l, len(x)-n)
		}
	}
}

// 8.1: tables, by examples: of each length from 0 to that of the text.
func TestTable(t *testing.T) {
	for _, x := range []struct {
		s string
		l []int
	}{
		{"abab", []int{0, 0, 0, 1, 2}},
		{"", []int{0}},
		{"a", []int{0, 0}},
		{"\x00", []int{0, 0}},
		{"aa", []int{0, 0, 1}},
		{"ab", []int{0, 0, 0}},
		{"aaaa", []int{0, 0, 1, 2, 3}},
		{"aaab", []int{0, 0, 1, 2, 0}},
		{"abaabab", []int{0, 0, 0, 1, 1, 2, 3, 2}},
		{"aabaaab", []int{0, 0, 1, 0, 1, 2, 2, 3}},
		{"abacabad", []int{0, 0, 0, 1, 0, 1, 2, 3, 0}},
		{"\u00e4\u00e4", []int{0, 0, 0, 1, 2}},
		{"\xff\x00\xff", []int{0, 0, 0, 1}},
	} {
		checkTable(t, x.s, x.l)
		checkText(t, x.s)
	}
}

// 8.1: all borders, by examples: the longest first, none empty, none the text.
func TestAll(t *testing.T) {
	checkAll(t, "aaa", []int{2, 1})
	checkAll(t, "", nil)
	checkAll(t, "a", nil)
	checkAll(t, "ab", nil)
	checkAll(t, "aba", []int{1})
	checkAll(t, "abab", []int{2})
	checkAll(t, "abaababaaba", []int{6, 3, 1})
	checkAll(t, "\x00\x00", []int{1})
}

// 8.1: periods, by examples: that of a text without border is its length.
func TestPeriod(t *testing.T) {
	checkPeriod(t, "", 0)
	checkPeriod(t, "a", 1)
	checkPeriod(t, "aaa", 1)
	checkPeriod(t, "ab", 2)
	checkPeriod(t, "aba", 2)
	checkPeriod(t, "abab", 2)
	checkPeriod(t, "aab", 3)
	checkPeriod(t, "abcab", 3)
	checkPeriod(t, "abca", 3)
}

// 8.1: texts that are a shorter one several times, and those that are not, by examples: also where the period is short, and does not go into the length.
func TestWhole(t *testing.T) {
	for _, s := range []string{"aa", "aaa", "abab", "aabaab", "ababab", "\x00\x00", "abcabcabcabc"} {
		checkWhole(t, s, true)
	}
	for _, s := range []string{"", "a", "ab", "aba", "ababa", "aab", "abcab", "abcabca", "abaab", "\x00"} {
		checkWhole(t, s, false)
	}
}

// 8.2: how far a text reaches into another one, by examples: also all of one, and all of both.
func TestReach(t *testing.T) {
	for _, x := range []struct {
		a, b string
		n    int
	}{
		{"xab", "abc", 2},
		{"", "", 0},
		{"", "a", 0},
		{"a", "", 0},
		{"a", "a", 1},
		{"a", "b", 0},
		{"ab", "ab", 2},
		{"ab", "ba", 1},
		{"abc", "ab", 0},
		{"xab", "ab", 2},
		{"ab", "abc", 2},
		{"aab", "aab", 3},
		{"aaaa", "aa", 2},
		{"aa", "aaaa", 2},
		{"ababa", "babab", 4},
		{"abab", "abab", 4},
		{"abaab", "aabaa", 3},
		{"aabaabaa", "aabaabb", 5},
		{"abcx", "abc", 0},
		{"x\x00\xff", "\x00\xffy", 2},
	} {
		checkReach(t, x.a, x.b, x.n)
	}
}

// 8.2: where a text stands in another one, by examples: also overlapping; the empty one stands nowhere.
func TestFind(t *testing.T) {
	for _, x := range []struct {
		s, x string
		l    []int
	}{
		{"aaa", "aa", []int{0, 1}},
		{"", "", nil},
		{"a", "", nil},
		{"", "a", nil},
		{"a", "a", []int{0}},
		{"a", "b", nil},
		{"a", "aa", nil},
		{"ab", "ba", nil},
		{"aaa", "a", []int{0, 1, 2}},
		{"aaa", "aaa", []int{0}},
		{"aaa", "aaaa", nil},
		{"ababa", "aba", []int{0, 2}},
		{"ababa", "ab", []int{0, 2}},
		{"aabaab", "aab", []int{0, 3}},
		{"aaabaaab", "aab", []int{1, 5}},
		{"abcabcabd", "abcabd", []int{3}},
		{"\u00e4\u00e4", "\xa4\xc3", []int{1}},
		{"\x00\x00\xff\x00", "\x00", []int{0, 1, 3}},
	} {
		checkFind(t, x.s, x.x, x.l)
	}
}

// 8.1, 8.3: of all short texts of few bytes.
func TestShort(t *testing.T) {
	for _, x := range []struct {
		some string
		most int
	}{{"a", 30}, {"ab", 11}, {"abc", 7}, {"\x00\x7f\x80\xff", 5}} {
		texts(x.some, x.most, func(s string) {
			checkText(t, s)
			checkFollows(t, s)
		})
	}
}

// 8.1, 8.3: of all texts of few bytes, each put down several times, and so again with the last one cut off anywhere.
func TestSeveral(t *testing.T) {
	texts("ab", 5, func(s string) {
		several := strings.Repeat(s, 4)
		for n := range len(several) + 1 {
			checkText(t, several[:n])
			checkFollows(t, several[:n])
		}
	})
}

// 8.2: all short texts against all short texts.
func TestShortReach(t *testing.T) {
	texts("ab", 7, func(a string) {
		texts("ab", 7, func(b string) { checkReach(t, a, b, wantReach(a, b)) })
	})
	texts("\x00a\xff", 4, func(a string) {
		texts("\x00a\xff", 4, func(b string) { checkReach(t, a, b, wantReach(a, b)) })
	})
}

// 8.2, 8.3: all short texts in all short texts.
func TestShortFind(t *testing.T) {
	texts("ab", 9, func(s string) {
		texts("ab", 5, func(x string) {
			checkFind(t, s, x, wantFind(s, x))
			checkPlaces(t, s, x)
		})
	})
	texts("\x00a\xff", 5, func(s string) {
		texts("\x00a\xff", 3, func(x string) { checkFind(t, s, x, wantFind(s, x)) })
	})
}

// 8.1, 8.2: all bytes are held against each other, each as itself.
func TestBytes(t *testing.T) {
	s := all()
	for i := range 256 {
		for j := range 256 {
			same := i == j
			x, y := s[i:i+1], s[j:j+1]
			n, places := 0, []int(nil)
			if same {
				n, places = 1, []int{0}
			}
			checkTable(t, x+y, []int{0, 0, n})
			checkWhole(t, x+y, same)
			checkReach(t, x, y, n)
			checkFind(t, x, y, places)
		}
		checkFind(t, s+s, s[i:i+1], []int{i, i + 256})
		checkReach(t, s, s[i:], 256-i)
		checkReach(t, s[:i]+"xx", s, wantReach(s[:i]+"xx", s))
	}
	checkText(t, s)
	checkPeriod(t, s+s[:9], 256)
	checkWhole(t, s+s, true)
}

// 8.1, 8.2: long texts that are alike for long, such as would take time without end if each place were gone through anew.
func TestLong(t *testing.T) {
	const n = 1 << 20
	a := strings.Repeat("a", n)
	checkPeriod(t, a, 1)
	checkPeriod(t, a+"b", n+1)
	checkPeriod(t, a+"b"+a, n+1)
	checkWhole(t, a, true)
	checkWhole(t, a+"b"+a, false)
	checkWhole(t, a+"b"+a+"b", true)
	checkReach(t, a, "b"+a, 0)
	checkReach(t, "b"+a, a+"b", n)
	checkReach(t, a+"b", a, 0)
	checkReach(t, "b"+a, a[1:]+"b", n-1)
	checkReach(t, a+"b"+a, a+"b"+a, 2*n+1)
	checkFind(t, a, a+"b", nil)
	checkFind(t, a+"b", a[n/2:]+"b", []int{n / 2})
	checkFind(t, a, a[n/2:]+"b", nil)
	places, borders := border.Find(a, a[n/2:]), border.All(a)
	if len(places) != n/2+1 || len(borders) != n-1 {
		t.Fatalf("%d places, %d borders; want %d, %d", len(places), len(borders), n/2+1, n-1)
	}
	for i, at := range places {
		if at != i {
			t.Fatalf("place %d is %d", i, at)
		}
	}
	for i, b := range borders {
		if b != n-1-i {
			t.Fatalf("border %d has %d bytes", i, b)
		}
	}
}

// 8.1 to 8.3: texts each of which is the two ahead of it put together: in these one falls back from border to border as often as can be.
func TestTwins(t *testing.T) {
	x, y := "a", "ab"
	for len(y) < 1<<20 {
		x, y = y, y+x
		if len(y) < 300 {
			checkText(t, y)
			checkFollows(t, y)
			checkFind(t, y, x, wantFind(y, x))
			checkReach(t, y, x, wantReach(y, x))
			checkReach(t, x, y, wantReach(x, y))
		}
		checkPeriod(t, y, len(x))
		checkWhole(t, y, false)
		checkWhole(t, y+y, true)
	}
}

// R4: lists that are answered share no memory.
func TestMemory(t *testing.T) {
	for _, list := range []func() []int{
		func() []int { return border.Table("aaaa") },
		func() []int { return border.All("aaaa") },
		func() []int { return border.Find("aaaa", "a") },
	} {
		a, b := list(), list()
		want := slices.Clone(b)
		for i := range a[:cap(a)] {
			a[:cap(a)][i] = -1
		}
		if !slices.Equal(b, want) || !slices.Equal(list(), want) {
			t.Errorf("lists share memory: %v, %v; want %v", b, list(), want)
		}
	}
}

// R5: the same again.
func TestAgain(t *testing.T) {
	for range 3 {
		checkText(t, "abab")
		checkReach(t, "xab", "abc", 2)
		checkFind(t, "aaa", "aa", []int{0, 1})
		checkFind(t, "aaa", "", nil)
	}
}
