package dense_test

import (
	"cmp"
	"math"
	"slices"
	"strings"
	"testing"

	"jurat/api"
	"jurat/class"
	"jurat/dense"
	"jurat/link"
	"jurat/pats"
)

// texts is all texts of at most so many bytes out of some, the shortest first.
func texts(some string, most int) []string {
	l := []string{""}
	for i := 0; i < len(l); i++ {
		if len(l[i]) == most {
			continue
		}
		for k := range len(some) {
			l = append(l, l[i]+some[k:k+1])
		}
	}
	return l
}

// subsets calls f with each list of some texts that has one at least, each at most once.
func subsets(some []string, f func([]string)) {
	for bits := 1; bits < 1<<len(some); bits++ {
		var l []string
		for i, s := range some {
			if bits>>i&1 == 1 {
				l = append(l, s)
			}
		}
		f(l)
	}
}

// mixed is a text of some bytes, in which they stand mixed.
func mixed(some string, size int) string {
	b, n := []byte{}, uint32(size)
	for range size {
		n = n*1664525 + 1013904223
		b = append(b, some[int(n>>16)%len(some)])
	}
	return string(b)
}

// all is all bytes, from the least one on.
func all() string {
	var b []byte
	for c := range 256 {
		b = append(b, byte(c))
	}
	return string(b)
}

// setOf is the set of texts that are one.
func setOf(t *testing.T, l ...string) *pats.Set {
	t.Helper()
	x, e := pats.New(l)
	if x == nil || e != api.OK {
		t.Fatalf("pats.New of %d texts %.40q: %v; want a set", len(l), l[:min(len(l), 9)], e)
	}
	return x
}

// words is what the chapters word of a set: its states' numbers, by their bytes, and the bytes that are not foreign, rising.
type words struct {
	states map[string]int
	own    string
}

// wordsOf is that of patterns.
func wordsOf(l []string) words {
	var states []string
	for _, p := range l {
		for n := range len(p) + 1 {
			states = append(states, p[:n])
		}
	}
	slices.SortFunc(states, func(a, b string) int {
		return cmp.Or(len(a)-len(b), strings.Compare(a, b))
	})
	w := words{states: map[string]int{}}
	for s, p := range slices.Compact(states) {
		w.states[p] = s
	}
	own := slices.Sorted(slices.Values([]byte(strings.Join(l, ""))))
	w.own = string(slices.Compact(own))
	return w
}

// step is the longest state with which a text ends.
func (w words) step(s string) int {
	for {
		if n, ok := w.states[s]; ok {
			return n
		}
		s = s[1:]
	}
}

// row is where each class leads from the state that a text is.
func (w words) row(p string) []int {
	l := []int{0}
	for i := range len(w.own) {
		l = append(l, w.step(p+w.own[i:i+1]))
	}
	return l
}

func checkSize(t *testing.T, y *dense.Table, states, classes int) {
	t.Helper()
	if n := y.Len(); n != states {
		t.Errorf("Len: %d; want %d", n, states)
	}
	if n := y.Width(); n != classes {
		t.Errorf("Width: %d; want %d", n, classes)
	}
}

func checkStep(t *testing.T, y *dense.Table, s int, c byte, want int) {
	t.Helper()
	if n := y.Step(s, c); n != want {
		t.Errorf("Step(%d, %q): %d; want %d", s, c, n, want)
	}
}

func checkRow(t *testing.T, y *dense.Table, s int, want ...int) {
	t.Helper()
	if l := y.Row(s); !slices.Equal(l, want) {
		t.Errorf("Row(%d): %d places %v; want %d places %v", s, len(l), l[:min(len(l), 9)], len(want), want[:min(len(want), 9)])
	}
}

// checkClasses asks whether a table's classes are those by which bytes that rise stand in patterns.
func checkClasses(t *testing.T, y *dense.Table, own string) {
	t.Helper()
	k := y.Classes()
	if k.Len() != 1+len(own) || k.Bytes() != own {
		t.Errorf("Classes: %d of %q; want %d of %q", k.Len(), k.Bytes(), 1+len(own), own)
	}
	for c := range 256 {
		// Of one that is not there, the place is -1.
		if n, want := k.Of(byte(c)), 1+strings.IndexByte(own, byte(c)); n != want {
			t.Errorf("Classes, Of(%q): %d; want %d", byte(c), n, want)
		}
	}
}

// checkNoState asks for nothing at numbers that are no state's: beyond both ends, at an int's edges, and such as are a state's once they are cut to fewer bits, or once so many rows go round.
func checkNoState(t *testing.T, y *dense.Table) {
	t.Helper()
	n := y.Len()
	for _, s := range []int{
		math.MinInt, math.MinInt + 1, -n - 1, -n, -2, -1, n, n + 1, 2*n + 3, math.MaxInt - 1, math.MaxInt,
		1 << 31, 1 << 32, 1<<32 + 1, 1<<32 + n - 1, 1 << 62, 1<<62 + 1, 1<<64/3 + 1, -1 << 31, -1 << 32, 1 - 1<<32, n - 1 - 1<<32,
	} {
		if s >= 0 && s < n {
			continue
		}
		checkRow(t, y, s)
		for c := range 256 {
			checkStep(t, y, s, byte(c), 0)
		}
	}
}

// checkTable asks of the table of patterns all that 19.1 and 19.2 tell of it, by the chapters' words.
func checkTable(t *testing.T, l ...string) *dense.Table {
	t.Helper()
	y, w := dense.New(setOf(t, l...)), wordsOf(l)
	checkSize(t, y, len(w.states), 1+len(w.own))
	checkClasses(t, y, w.own)
	for p, s := range w.states {
		checkRow(t, y, s, w.row(p)...)
		for c := range 256 {
			checkStep(t, y, s, byte(c), w.step(p+string([]byte{byte(c)})))
		}
	}
	checkNoState(t, y)
	if t.Failed() {
		t.Fatalf("of the %d patterns %.40q", len(l), l[:min(len(l), 9)])
	}
	return y
}

// checkFollows asks what 19.3 tells of a table, by the links of its set: so each row is known by shorter states', and the root's by the trie.
func checkFollows(t *testing.T, y *dense.Table, x *pats.Set) {
	t.Helper()
	k, classes := link.New(x), class.New(x)
	checkSize(t, y, k.Trie().Len(), classes.Len())
	for s := range y.Len() {
		want := make([]int, classes.Len())
		if s > 0 {
			want = y.Row(k.Fail(s))
		}
		want[0] = 0
		for _, c := range []byte(k.Trie().Bytes(s)) {
			want[classes.Of(c)], _ = k.Trie().Next(s, c)
		}
		checkRow(t, y, s, want...)
		for c := range 256 {
			if to := want[classes.Of(byte(c))]; y.Step(s, byte(c)) != to {
				checkStep(t, y, s, byte(c), to)
			}
		}
		if t.Failed() {
			t.Fatalf("of the state %d, which is %.40q", s, k.Trie().Path(s))
		}
	}
	checkNoState(t, y)
}

// 19.1, 19.2: the chapter's example.
func TestExample(t *testing.T) {
	y := checkTable(t, "ab", "b")
	checkSize(t, y, 4, 3)
	checkClasses(t, y, "ab")
	checkRow(t, y, 0, 0, 1, 2)
	checkRow(t, y, 1, 0, 1, 3)
	checkRow(t, y, 2, 0, 1, 2)
	checkRow(t, y, 3, 0, 1, 2)
	checkRow(t, y, 4)
	checkRow(t, y, -1)
	checkStep(t, y, 1, 'b', 3)
	checkStep(t, y, 3, 'a', 1)
	checkStep(t, y, 1, 'x', 0)
	checkStep(t, y, 4, 'a', 0)
	checkStep(t, y, -1, 'a', 0)
}

// 19.2: rows, by examples.
func TestRows(t *testing.T) {
	for _, x := range []struct {
		patterns []string
		rows     [][]int
	}{
		{[]string{"a"}, [][]int{{0, 1}, {0, 1}}},
		{[]string{"aaa"}, [][]int{{0, 1}, {0, 2}, {0, 3}, {0, 3}}},
		{[]string{"\xff\x00"}, [][]int{{0, 0, 1}, {0, 2, 1}, {0, 0, 1}}},
		// The state ab falls back to b, of which the row has bc already.
		{[]string{"aba", "bc"}, [][]int{
			{0, 1, 2, 0}, {0, 1, 3, 0}, {0, 1, 2, 4}, {0, 5, 2, 4}, {0, 1, 2, 0}, {0, 1, 3, 0},
		}},
		// The states are the empty one, h, s, he, sh, her, she, hers; the classes those of e, h, r, s.
		{[]string{"he", "hers", "she"}, [][]int{
			{0, 0, 1, 0, 2}, {0, 3, 1, 0, 2}, {0, 0, 4, 0, 2}, {0, 0, 1, 5, 2},
			{0, 6, 1, 0, 2}, {0, 0, 1, 0, 7}, {0, 0, 1, 5, 2}, {0, 0, 4, 0, 2},
		}},
		// The first state that aabaaa falls back to does not lead on by b; the next one does.
		{[]string{"aabaaab"}, [][]int{
			{0, 1, 0}, {0, 2, 0}, {0, 2, 3}, {0, 4, 0}, {0, 5, 0}, {0, 6, 3}, {0, 2, 7}, {0, 4, 0},
		}},
	} {
		y := checkTable(t, x.patterns...)
		checkSize(t, y, len(x.rows), len(x.rows[0]))
		for s, row := range x.rows {
			checkRow(t, y, s, row...)
		}
	}
}

// 19.1, 19.2, 19.3: all sets of few short patterns.
func TestShortSets(t *testing.T) {
	for _, some := range [][]string{
		texts("ab", 2)[1:],
		texts("ab", 3)[7:],
		texts("\x00\xff", 2)[1:],
		{"a", "ab", "abc", "ac", "abca", "bca", "cab", "cc"},
		{"a", "aabb", "aab", "abb", "bbab", "bba", "bbaaa", "z"},
		{"aaaaa", "aabaab", "abaababa", "babaabab", "bb", "baa"},
	} {
		subsets(some, func(l []string) {
			y, x := checkTable(t, l...), setOf(t, l...)
			checkFollows(t, y, x)
		})
	}
}

// 19.2: a table leads as links do, whatever text is gone through.
func TestLinks(t *testing.T) {
	own := mixed(all(), 300)
	x := setOf(t, "he", "hers", "his", "she", own, own[100:]+own[:99], own[7:55], own[55:], mixed("hers", 500), mixed("hei", 700))
	y, k := dense.New(x), link.New(x)
	for s := range k.Trie().Len() {
		for c := range 256 {
			checkStep(t, y, s, byte(c), k.Step(s, byte(c)))
		}
	}
	for _, text := range []string{own + own, strings.Join(x.List(), ""), strings.Join(x.List(), "\x00"), mixed("hers", 9999), mixed("heis", 9999), mixed(all(), 9999)} {
		one, other := 0, 0
		for i := range len(text) {
			one, other = y.Step(one, text[i]), k.Step(other, text[i])
			if one != other {
				t.Fatalf("%d bytes lead to %d; want %d", i+1, one, other)
			}
		}
	}
	checkFollows(t, y, x)
}

// 19.1, 19.2: each byte, as the only one that is not foreign, and as the only one that is; then all of them.
func TestEachByte(t *testing.T) {
	s := all()
	var singles, doubles []string
	for c := range 256 {
		p, next := s[c:c+1], string([]byte{byte(c + 1)})
		singles = append(singles, p)
		doubles = append(doubles, p+next)
		y := checkTable(t, p)
		checkSize(t, y, 2, 2)
		checkRow(t, y, 0, 0, 1)
		checkRow(t, y, 1, 0, 1)
		checkTable(t, p+next, next+next+p)
		rest := setOf(t, s[:c]+s[c+1:])
		y = dense.New(rest)
		checkSize(t, y, 256, 256)
		checkClasses(t, y, s[:c]+s[c+1:])
		checkFollows(t, y, rest)
		for state := range 256 {
			checkStep(t, y, state, byte(c), 0)
		}
	}
	y := checkTable(t, singles...)
	checkSize(t, y, 257, 257)
	for state := range 257 {
		for c := range 256 {
			checkStep(t, y, state, byte(c), 1+c)
		}
	}
	checkTable(t, doubles...)
	checkTable(t, s, s[1:]+s[:1])
}

// 19.1, 19.2: a nil table has nothing; that of a nil set has the root, and the class of foreign bytes, alone.
func TestNil(t *testing.T) {
	for _, y := range []*dense.Table{nil, {}} {
		checkSize(t, y, 0, 0)
		if k := y.Classes(); k != nil {
			t.Errorf("Classes: %d; want nil", k.Len())
		}
		checkNoState(t, y)
		checkStep(t, y, 0, 'a', 0)
		checkRow(t, y, 0)
	}
	y := dense.New(nil)
	checkSize(t, y, 1, 1)
	checkClasses(t, y, "")
	checkRow(t, y, 0, 0)
	for c := range 256 {
		checkStep(t, y, 0, byte(c), 0)
	}
	checkNoState(t, y)
}

// 19.2: the longest pattern, of like bytes, of two in turn, and of all bytes.
func TestLong(t *testing.T) {
	const n = api.MaxPattern
	y := dense.New(setOf(t, strings.Repeat("a", n)))
	checkSize(t, y, n+1, 2)
	for s := range n + 1 {
		checkRow(t, y, s, 0, min(s+1, n))
		checkStep(t, y, s, 'a', min(s+1, n))
		checkStep(t, y, s, 'b', 0)
	}
	checkNoState(t, y)

	y = dense.New(setOf(t, strings.Repeat("ab", n/2)+"a"))
	checkSize(t, y, n+1, 3)
	for s := 0; s < n; s += 2 {
		checkRow(t, y, s, 0, s+1, 0)
		checkRow(t, y, s+1, 0, 1, min(s+2, n-1))
	}
	checkNoState(t, y)

	const half = n / 2
	like := strings.Repeat("a", half)
	y = dense.New(setOf(t, like+"b"+like))
	for s := range half {
		checkRow(t, y, s, 0, s+1, 0)
		checkRow(t, y, half+1+s, 0, half+2+s, 0)
	}
	checkRow(t, y, half, 0, half, half+1)
	checkRow(t, y, n, 0, half, half+1)

	x := setOf(t, mixed(all(), n))
	y = dense.New(x)
	checkSize(t, y, n+1, 257)
	checkFollows(t, y, x)
}

// 19.1, 19.2: the most patterns, all of two bytes: the number of each state tells its bytes.
func TestMostPatterns(t *testing.T) {
	var l []string
	for i := range api.MaxPatterns {
		l = append(l, string([]byte{byte(i >> 8), byte(i)}))
	}
	y := dense.New(setOf(t, l...))
	checkSize(t, y, 257+api.MaxPatterns, 257)
	checkClasses(t, y, all())
	// rows is where one leads behind each byte.
	rows := make([][]int, 256)
	root := []int{0}
	for c := range 256 {
		root = append(root, 1+c)
		rows[c] = []int{0}
		for d := range 256 {
			rows[c] = append(rows[c], 257+c<<8+d)
		}
	}
	// The two bytes that are no pattern lead no further than one.
	rows[255][256] = 256
	checkRow(t, y, 0, root...)
	for c := range 256 {
		checkRow(t, y, 1+c, rows[c]...)
	}
	for i := range l {
		checkRow(t, y, 257+i, rows[i&255]...)
		checkStep(t, y, 257+i, 255, rows[i&255][256])
		checkStep(t, y, 257+i, 0, rows[i&255][1])
	}
	checkNoState(t, y)
}

// 19.1, 19.2: as many states as patterns can have bytes, but for those of their first eight, which are all that two bytes can make; all that are behind these are alike.
func TestMostBytes(t *testing.T) {
	const n = api.MaxPattern
	var l []string
	for i := range 256 {
		l = append(l, bits(i)+strings.Repeat("a", n-8))
	}
	y := dense.New(setOf(t, l...))
	// at is the state of so many bytes, 8 or more, that begins with the bits of a number.
	at := func(i, depth int) int {
		return 255 + 256*(depth-8) + i&255
	}
	checkSize(t, y, at(255, n)+1, 3)
	for s := range 255 {
		checkRow(t, y, s, 0, 2*s+1, 2*s+2)
	}
	for depth := 8; depth <= n; depth++ {
		for i := range 256 {
			s, a, b := at(i, depth), at(i, depth+1), at(i<<(depth-7)+1, 8)
			if depth == n {
				a = at(i<<1, n)
			}
			if y.Step(s, 'a') != a || y.Step(s, 'b') != b || y.Step(s, 'c') != 0 {
				checkRow(t, y, s, 0, a, b)
				t.Fatalf("of the state %d, with %d bytes, the first ones %q", s, depth, bits(i))
			}
		}
	}
	checkRow(t, y, at(255, n), 0, at(254, n), at(1, 8))
	checkNoState(t, y)
}

// bits is the lowest eight bits of a number, the highest first: an a or a b each.
func bits(n int) string {
	var b []byte
	for i := 7; i >= 0; i-- {
		b = append(b, "ab"[n>>i&1])
	}
	return string(b)
}

// R4, R5: the same again, in whatever order the patterns come; tables know nothing of each other, what is written into a row, or behind it, changes none, and their set stays as it is.
func TestAgain(t *testing.T) {
	set := setOf(t, "b", "ab")
	y := dense.New(set)
	for range 3 {
		other := dense.New(setOf(t, "aaa"))
		checkRow(t, other, 1, 0, 2)
		for _, same := range []*dense.Table{y, dense.New(set), dense.New(setOf(t, "ab", "b"))} {
			checkSize(t, same, 4, 3)
			checkClasses(t, same, "ab")
			one, two := same.Row(1), same.Row(1)
			for i := range one {
				one[i] = 7
			}
			_ = append(two, 8, 8, 8)
			two = append(two[:1], 9)
			checkRow(t, same, 0, 0, 1, 2)
			checkRow(t, same, 1, 0, 1, 3)
			checkRow(t, same, 2, 0, 1, 2)
			checkStep(t, same, 1, 'b', 3)
			if !slices.Equal(two, []int{0, 9}) {
				t.Errorf("Row was %v; is %v now", []int{0, 9}, two)
			}
		}
		if l := set.List(); !slices.Equal(l, []string{"ab", "b"}) {
			t.Errorf("the set is now %q", l)
		}
	}
}
