package chunk_test

import (
	"iter"
	"math"
	"slices"
	"strings"
	"testing"

	"jurat/api"
	"jurat/chunk"
)

// all is all bytes, from the least one on.
func all() string {
	var b []byte
	for c := range 256 {
		b = append(b, byte(c))
	}
	return string(b)
}

// lists calls f with each list of at most so many things out of some.
func lists[T any](things []T, most int, f func([]T)) {
	var grow func([]T)
	grow = func(l []T) {
		f(slices.Clone(l))
		if len(l) == most {
			return
		}
		for _, x := range things {
			grow(append(slices.Clone(l), x))
		}
	}
	grow(nil)
}

// wantCut is a text in parts, as the chapter words it: byte by byte.
func wantCut(s string, lengths []int) []string {
	var parts []string
	left := []byte(s)
	for _, n := range lengths {
		var part []byte
		for len(part) < n && len(left) > 0 {
			part = append(part, left[0])
			left = left[1:]
		}
		parts = append(parts, string(part))
	}
	if len(left) > 0 {
		parts = append(parts, string(left))
	}
	return parts
}

// wantEven is a text in parts of n bytes, as the chapter words it: byte by byte.
func wantEven(s string, n int) []string {
	var parts []string
	for i, c := range []byte(s) {
		if i%n == 0 {
			parts = append(parts, "")
		}
		parts[len(parts)-1] += string([]byte{c})
	}
	return parts
}

// spot is where a byte stands.
type spot struct {
	c           byte
	part, place int
}

// wantSpots is where all bytes stand, the first one first.
func wantSpots(l []string) []spot {
	var spots []spot
	for part, p := range l {
		for place, c := range []byte(p) {
			spots = append(spots, spot{c, part, place})
		}
	}
	return spots
}

// pair is a part with how many bytes stand ahead of it.
type pair struct {
	ahead int
	part  string
}

// wantPairs is what one goes through.
func wantPairs(l []string) []pair {
	var pairs []pair
	for i, p := range l {
		ahead := 0
		for _, q := range l[:i] {
			ahead += len(q)
		}
		pairs = append(pairs, pair{ahead, p})
	}
	return pairs
}

// pairs is what one goes through, at most so many.
func pairs(parts iter.Seq2[int, string], most int) []pair {
	var l []pair
	if most == 0 {
		return nil
	}
	for ahead, p := range parts {
		l = append(l, pair{ahead, p})
		if len(l) == most {
			break
		}
	}
	return l
}

func checkCut(t *testing.T, s string, lengths []int, want []string) {
	t.Helper()
	if l := chunk.Cut(s, lengths...); !slices.Equal(l, want) {
		t.Errorf("Cut(%.40q, %v): %.40q; want %.40q", s, lengths, l, want)
	}
}

func checkEven(t *testing.T, s string, n int, want []string, we api.Errno) {
	t.Helper()
	if l, e := chunk.Even(s, n); !slices.Equal(l, want) || e != we {
		t.Errorf("Even(%.40q, %d): %.40q, %v; want %.40q, %v", s, n, l, e, want, we)
	}
}

func checkWhere(t *testing.T, l []string, at, part, place int, ok bool) {
	t.Helper()
	if p, q, o := chunk.Where(l, at); p != part || q != place || o != ok {
		t.Errorf("Where(%.40q, %d): %d, %d, %v; want %d, %d, %v", l, at, p, q, o, part, place, ok)
	}
}

// checkParts asks of parts all that 6.2 tells of them.
func checkParts(t *testing.T, l []string, text string, lengths []int, longest int) {
	t.Helper()
	if s := chunk.Join(l); s != text {
		t.Errorf("Join(%.40q): %.40q; want %.40q", l, s, text)
	}
	if n := chunk.Lengths(l); !slices.Equal(n, lengths) {
		t.Errorf("Lengths(%.40q): %v; want %v", l, n, lengths)
	}
	if n := chunk.Longest(l); n != longest {
		t.Errorf("Longest(%.40q): %d; want %d", l, n, longest)
	}
	if p := pairs(chunk.All(l), -1); !slices.Equal(p, wantPairs(l)) {
		t.Errorf("All(%.40q): %#v; want %#v", l, p, wantPairs(l))
	}
	spots := wantSpots(l)
	for at, x := range spots {
		checkWhere(t, l, at, x.part, x.place, true)
		if x.c != text[at] {
			t.Errorf("byte %d of %.40q is %d; want %d", at, l, text[at], x.c)
		}
	}
	for _, at := range []int{len(spots), len(spots) + 1, 2*len(spots) + 1, math.MaxInt - 1, math.MaxInt, -1, -2, -len(spots) - 1, math.MinInt, math.MinInt + 1} {
		checkWhere(t, l, at, 0, 0, false)
	}
}

// 6.1: texts that are cut, by examples.
func TestCut(t *testing.T) {
	for _, x := range []struct {
		s       string
		lengths []int
		l       []string
	}{
		{"abcde", []int{2, 0, 9}, []string{"ab", "", "cde"}},
		{"abc", []int{1}, []string{"a", "bc"}},
		{"", nil, nil},
		{"abc", nil, []string{"abc"}},
		{"abc", []int{}, []string{"abc"}},
		{"", []int{0}, []string{""}},
		{"", []int{3, -1, 0}, []string{"", "", ""}},
		{"abc", []int{3}, []string{"abc"}},
		{"abc", []int{2}, []string{"ab", "c"}},
		{"abc", []int{4}, []string{"abc"}},
		{"abc", []int{3, 0}, []string{"abc", ""}},
		{"abc", []int{3, 1, 1}, []string{"abc", "", ""}},
		{"abc", []int{0}, []string{"", "abc"}},
		{"abc", []int{-1}, []string{"", "abc"}},
		{"abc", []int{-1, 1, -1}, []string{"", "a", "", "bc"}},
		{"abc", []int{1, 1, 1}, []string{"a", "b", "c"}},
		{"abc", []int{1, 1, 1, 1}, []string{"a", "b", "c", ""}},
		{"abc", []int{math.MaxInt}, []string{"abc"}},
		{"abc", []int{1, math.MaxInt, math.MaxInt}, []string{"a", "bc", ""}},
		{"abc", []int{math.MinInt, 2, math.MinInt}, []string{"", "ab", "", "c"}},
		{"\u00e4b", []int{1, 1}, []string{"\xc3", "\xa4", "b"}},
		{"\x00\xff\n", []int{1, 1}, []string{"\x00", "\xff", "\n"}},
	} {
		checkCut(t, x.s, x.lengths, x.l)
	}
}

// 6.1, 6.3: texts of each length up to 6, cut by all short lists of lengths, are cut as the chapter words it, and are the text again.
func TestCuts(t *testing.T) {
	lists([]int{math.MinInt, -1, 0, 1, 2, 3, 4, math.MaxInt}, 4, func(lengths []int) {
		for n := range 7 {
			s := "abcabc"[:n]
			checkCut(t, s, lengths, wantCut(s, lengths))
			if j := chunk.Join(chunk.Cut(s, lengths...)); j != s {
				t.Errorf("Cut(%q, %v) joined: %q", s, lengths, j)
			}
		}
	})
}

// 6.1: parts of one length, by examples and by what is no length.
func TestEven(t *testing.T) {
	checkEven(t, "", 1, nil, api.OK)
	checkEven(t, "", math.MaxInt, nil, api.OK)
	checkEven(t, "abcde", 1, []string{"a", "b", "c", "d", "e"}, api.OK)
	checkEven(t, "abcde", 2, []string{"ab", "cd", "e"}, api.OK)
	checkEven(t, "abcd", 2, []string{"ab", "cd"}, api.OK)
	checkEven(t, "abcde", 4, []string{"abcd", "e"}, api.OK)
	checkEven(t, "abcde", 5, []string{"abcde"}, api.OK)
	checkEven(t, "abcde", 6, []string{"abcde"}, api.OK)
	checkEven(t, "abcde", math.MaxInt-1, []string{"abcde"}, api.OK)
	checkEven(t, "abcde", math.MaxInt, []string{"abcde"}, api.OK)
	checkEven(t, "\u00e4b", 1, []string{"\xc3", "\xa4", "b"}, api.OK)
	for _, n := range []int{0, -1, -2, -5, math.MinInt, math.MinInt + 1} {
		checkEven(t, "abcde", n, nil, api.ErrArg)
		checkEven(t, "", n, nil, api.ErrArg)
	}
}

// 6.1, 6.3: texts of each length up to 40, in parts of each length, are as the chapter words it, and are the text again.
func TestEvens(t *testing.T) {
	for size := range 41 {
		s := all()[256-size:]
		for n := 1; n < 50; n++ {
			checkEven(t, s, n, wantEven(s, n), api.OK)
			l, _ := chunk.Even(s, n)
			checkParts(t, l, s, chunk.Lengths(wantEven(s, n)), min(n, size))
		}
	}
}

// 6.2: what is told of parts, by examples.
func TestParts(t *testing.T) {
	checkParts(t, nil, "", nil, 0)
	checkParts(t, []string{}, "", nil, 0)
	checkParts(t, []string{""}, "", []int{0}, 0)
	checkParts(t, []string{"", "", ""}, "", []int{0, 0, 0}, 0)
	checkParts(t, []string{"abc"}, "abc", []int{3}, 3)
	checkParts(t, []string{"ab", "", "cde"}, "abcde", []int{2, 0, 3}, 3)
	checkParts(t, []string{"abc", "d", ""}, "abcd", []int{3, 1, 0}, 3)
	checkParts(t, []string{"", "", "a", "", "", "b", ""}, "ab", []int{0, 0, 1, 0, 0, 1, 0}, 1)
	checkParts(t, []string{"a", "bcd", "ef"}, "abcdef", []int{1, 3, 2}, 3)
	checkParts(t, []string{"\xc3", "\xa4\x00", "\xff"}, "\u00e4\x00\xff", []int{1, 2, 1}, 2)
}

// 6.2: in which part a byte stands, by examples: an empty part has none.
func TestWhere(t *testing.T) {
	l := []string{"", "ab", "", "", "cde", ""}
	for at, x := range []spot{{part: 1}, {part: 1, place: 1}, {part: 4}, {part: 4, place: 1}, {part: 4, place: 2}} {
		checkWhere(t, l, at, x.part, x.place, true)
	}
	checkWhere(t, l, 5, 0, 0, false)
	checkWhere(t, l, -1, 0, 0, false)
	checkWhere(t, nil, 0, 0, 0, false)
	checkWhere(t, []string{""}, 0, 0, 0, false)
	checkWhere(t, []string{"", "a"}, 0, 1, 0, true)
}

// 6.2: what one goes through, by an example.
func TestAll(t *testing.T) {
	want := []pair{{0, "ab"}, {2, ""}, {2, "cde"}, {5, ""}}
	if l := pairs(chunk.All([]string{"ab", "", "cde", ""}), -1); !slices.Equal(l, want) {
		t.Errorf("All: %#v; want %#v", l, want)
	}
}

// 6.2: of all short lists of parts.
func TestShortLists(t *testing.T) {
	lists([]string{"", "a", "bc", "def", "\x80\x00\xff\x01"}, 5, func(l []string) {
		var text []byte
		var lengths []int
		longest := 0
		for _, p := range l {
			text = append(text, p...)
			lengths = append(lengths, len(p))
			if len(p) > longest {
				longest = len(p)
			}
		}
		checkParts(t, l, string(text), lengths, longest)
	})
}

// 6.2: one stops wherever one likes, and goes through the parts again from the first one on.
func TestStop(t *testing.T) {
	l := []string{"a", "", "bcd", "", "e"}
	parts := chunk.All(l)
	for most := range len(l) + 2 {
		want := wantPairs(l)[:min(most, len(l))]
		if p := pairs(parts, most); !slices.Equal(p, want) {
			t.Errorf("the first %d: %#v; want %#v", most, p, want)
		}
	}
	calls := 0
	parts(func(int, string) bool {
		calls++
		return calls < 3
	})
	if calls != 3 {
		t.Errorf("%d parts came, though one stopped at 3", calls)
	}
}

// 6.2: one goes through the parts within going through them.
func TestWithin(t *testing.T) {
	l := []string{"ab", "", "c"}
	parts := chunk.All(l)
	rounds := 0
	for range parts {
		rounds++
		if p := pairs(parts, -1); !slices.Equal(p, wantPairs(l)) {
			t.Errorf("round %d: %#v; want %#v", rounds, p, wantPairs(l))
		}
	}
	if rounds != len(l) {
		t.Errorf("%d rounds; want %d", rounds, len(l))
	}
}

// 6.1 to 6.3: long texts in many parts.
func TestLong(t *testing.T) {
	s := strings.Repeat(all(), 1<<12)
	l, e := chunk.Even(s, 1)
	if e != api.OK || len(l) != len(s) || chunk.Join(l) != s || chunk.Longest(l) != 1 {
		t.Errorf("Even of a long text by 1: %d parts, %v", len(l), e)
	}
	checkWhere(t, l, len(s)-1, len(s)-1, 0, true)
	checkWhere(t, l, len(s), 0, 0, false)
	many := slices.Repeat([]int{3, 0}, len(s)/5)
	cut := chunk.Cut(s, many...)
	rest := len(s) - len(s)/5*3
	if len(cut) != len(many)+1 || chunk.Join(cut) != s || chunk.Longest(cut) != rest {
		t.Errorf("Cut of a long text: %d parts, the longest one has %d bytes", len(cut), chunk.Longest(cut))
	}
	checkWhere(t, cut, len(s)-1, len(many), rest-1, true)
	if n := chunk.Lengths(cut); !slices.Equal(n, append(many, rest)) {
		t.Errorf("Lengths of a long text's parts: %d of them", len(n))
	}
}

// R4: what is handed in is not changed, and what lies behind its length is neither read nor written.
func TestArguments(t *testing.T) {
	lengths, parts := []int{2, 0, 1, 7}, []string{"ab", "", "cde", "x"}
	checkCut(t, "abcde", lengths[:3], []string{"ab", "", "c", "de"})
	checkParts(t, parts[:3], "abcde", []int{2, 0, 3}, 3)
	checkParts(t, parts[:0], "", nil, 0)
	if !slices.Equal(lengths, []int{2, 0, 1, 7}) || !slices.Equal(parts, []string{"ab", "", "cde", "x"}) {
		t.Errorf("what was handed in is now %v, %q", lengths, parts)
	}
}

// R4, R5: lists that are answered share no memory, with one another or with what was handed in; what one goes through is what was handed in, whatever becomes of it.
func TestMemory(t *testing.T) {
	a, b := chunk.Cut("abc", 1, 1), chunk.Cut("abc", 1, 1)
	clear(a[:cap(a)])
	if !slices.Equal(b, []string{"a", "b", "c"}) {
		t.Errorf("lists of Cut share memory: %q", b)
	}
	a, _ = chunk.Even("abc", 2)
	b, _ = chunk.Even("abc", 2)
	clear(a[:cap(a)])
	if !slices.Equal(b, []string{"ab", "c"}) {
		t.Errorf("lists of Even share memory: %q", b)
	}
	n, m := chunk.Lengths(b), chunk.Lengths(b)
	clear(n[:cap(n)])
	if !slices.Equal(m, []int{2, 1}) {
		t.Errorf("lists of Lengths share memory: %v", m)
	}
	parts := chunk.All(b)
	for range parts {
		clear(b)
		if p := pairs(parts, -1); !slices.Equal(p, []pair{{0, "ab"}, {2, "c"}}) {
			t.Errorf("what one goes through shares memory with the list: %#v", p)
		}
	}
}

// R5: the same again, with and without error.
func TestAgain(t *testing.T) {
	for range 3 {
		checkCut(t, "abcde", []int{2, 0, 9}, []string{"ab", "", "cde"})
		checkEven(t, "abc", 0, nil, api.ErrArg)
		checkEven(t, "abc", 2, []string{"ab", "c"}, api.OK)
		checkWhere(t, []string{"ab", "c"}, 3, 0, 0, false)
		checkWhere(t, []string{"ab", "c"}, 2, 1, 0, true)
	}
}
