package sparse_test

import (
	"cmp"
	"math"
	"slices"
	"strings"
	"testing"

	"jurat/api"
	"jurat/link"
	"jurat/pats"
	"jurat/sparse"
)

// texts is all texts of at most so many bytes out of some, the shortest first.
func texts(some string, most int) []string {
	l := []string{""}
	for i := 0; i < len(l); i++ {
		if len(l[i]) == most {
			continue
		}
		for k := range len(some) {
			l = append(l, l[i]+some[k:k+1])
		}
	}
	return l
}

// subsets calls f with each list of some texts that has one at least, each at most once.
func subsets(some []string, f func([]string)) {
	for bits := 1; bits < 1<<len(some); bits++ {
		var l []string
		for i, s := range some {
			if bits>>i&1 == 1 {
				l = append(l, s)
			}
		}
		f(l)
	}
}

// mixed is a text of some bytes, in which they stand mixed.
func mixed(some string, size int) string {
	b, n := []byte{}, uint32(size)
	for range size {
		n = n*1664525 + 1013904223
		b = append(b, some[int(n>>16)%len(some)])
	}
	return string(b)
}

// all is all bytes, from the least one on.
func all() string {
	var b []byte
	for c := range 256 {
		b = append(b, byte(c))
	}
	return string(b)
}

// setOf is the set of texts that are one.
func setOf(t *testing.T, l ...string) *pats.Set {
	t.Helper()
	x, e := pats.New(l)
	if x == nil || e != api.OK {
		t.Fatalf("pats.New of %d texts %.40q: %v; want a set", len(l), l[:min(len(l), 9)], e)
	}
	return x
}

// words is what the chapters word of a set: its states, in order, and the numbers of these.
type words struct {
	list   []string
	states map[string]int
}

// wordsOf is that of patterns.
func wordsOf(l []string) words {
	w := words{states: map[string]int{}}
	for _, p := range l {
		for n := range len(p) + 1 {
			w.list = append(w.list, p[:n])
		}
	}
	slices.SortFunc(w.list, func(a, b string) int {
		return cmp.Or(len(a)-len(b), strings.Compare(a, b))
	})
	w.list = slices.Compact(w.list)
	for s, p := range w.list {
		w.states[p] = s
	}
	return w
}

// step is the longest state with which a text ends.
func (w words) step(s string) int {
	for {
		if n, ok := w.states[s]; ok {
			return n
		}
		s = s[1:]
	}
}

// leading is how many states lead on.
func (w words) leading() int {
	n := 0
	for s, p := range w.list {
		// One that begins with it, and is longer, is among those behind it.
		if slices.ContainsFunc(w.list[s+1:], func(q string) bool { return strings.HasPrefix(q, p) }) {
			n++
		}
	}
	return n
}

func checkLen(t *testing.T, y *sparse.Table, want int) {
	t.Helper()
	if n := y.Len(); n != want {
		t.Errorf("Len: %d; want %d", n, want)
	}
}

// checkCells asks whether there are as many cells as 20.1 and 20.3 tell, if so many states lead on.
func checkCells(t *testing.T, y *sparse.Table, leading int) {
	t.Helper()
	if n := y.Cells(); n < y.Len()-1 || n > 256*leading {
		t.Errorf("Cells: %d; want %d at least, and %d at most", n, y.Len()-1, 256*leading)
	}
}

func checkNext(t *testing.T, y *sparse.Table, s int, c byte, want int, ok bool) {
	t.Helper()
	if n, is := y.Next(s, c); n != want || is != ok {
		t.Errorf("Next(%d, %q): %d, %v; want %d, %v", s, c, n, is, want, ok)
	}
}

func checkStep(t *testing.T, y *sparse.Table, s int, c byte, want int) {
	t.Helper()
	if n := y.Step(s, c); n != want {
		t.Errorf("Step(%d, %q): %d; want %d", s, c, n, want)
	}
}

// checkNoState asks for nothing at numbers that are no state's: beyond both ends, at an int's edges, and such as are a state's once they are cut to fewer bits.
func checkNoState(t *testing.T, y *sparse.Table) {
	t.Helper()
	n := y.Len()
	for _, s := range []int{
		math.MinInt, math.MinInt + 1, -n - 1, -n, -2, -1, n, n + 1, 2*n + 3, math.MaxInt - 1, math.MaxInt,
		1 << 31, 1 << 32, 1<<32 + 1, 1<<32 + n - 1, 1 << 62, 1<<62 + 1, -1 << 31, -1 << 32, 1 - 1<<32, n - 1 - 1<<32,
	} {
		if s >= 0 && s < n {
			continue
		}
		for c := range 256 {
			checkNext(t, y, s, byte(c), 0, false)
			checkStep(t, y, s, byte(c), 0)
		}
	}
}

// checkTable asks of the table of patterns all that 20.1 to 20.3 tell of it, by the chapters' words.
func checkTable(t *testing.T, l ...string) *sparse.Table {
	t.Helper()
	y, w := sparse.New(setOf(t, l...)), wordsOf(l)
	checkLen(t, y, len(w.list))
	checkCells(t, y, w.leading())
	for s, p := range w.list {
		for c := range 256 {
			on := p + string([]byte{byte(c)})
			next, ok := w.states[on]
			checkNext(t, y, s, byte(c), next, ok)
			checkStep(t, y, s, byte(c), w.step(on))
		}
	}
	checkNoState(t, y)
	if t.Failed() {
		t.Fatalf("of the %d patterns %.40q", len(l), l[:min(len(l), 9)])
	}
	return y
}

// checkLinks asks of the table of a set whether it leads as links do: by all bytes from states that some apart are, and by those by which it leads on from all.
func checkLinks(t *testing.T, y *sparse.Table, x *pats.Set, apart int) {
	t.Helper()
	k := link.New(x)
	checkLen(t, y, k.Trie().Len())
	leading := 0
	for s := range k.Trie().Len() {
		some := k.Trie().Bytes(s)
		if some != "" {
			leading++
		}
		if s%apart == 0 {
			some = all()
		}
		for _, c := range []byte(some) {
			next, ok := k.Trie().Next(s, c)
			if n, is := y.Next(s, c); n != next || is != ok || y.Step(s, c) != k.Step(s, c) {
				checkNext(t, y, s, c, next, ok)
				checkStep(t, y, s, c, k.Step(s, c))
				t.Fatalf("of the state %d, which is %.40q", s, k.Trie().Path(s))
			}
		}
	}
	checkCells(t, y, leading)
	checkNoState(t, y)
}

// 20.1, 20.2: the chapter's example.
func TestExample(t *testing.T) {
	y := checkTable(t, "ab", "b")
	checkLen(t, y, 4)
	checkNext(t, y, 0, 'a', 1, true)
	checkNext(t, y, 0, 'b', 2, true)
	checkNext(t, y, 0, 'c', 0, false)
	checkNext(t, y, 1, 'b', 3, true)
	checkNext(t, y, 1, 'a', 0, false)
	checkNext(t, y, 2, 'a', 0, false)
	checkNext(t, y, 4, 'a', 0, false)
	checkNext(t, y, -1, 'a', 0, false)
	checkStep(t, y, 2, 'a', 1)
	checkStep(t, y, 3, 'b', 2)
	checkStep(t, y, 1, 'x', 0)
	checkStep(t, y, 4, 'a', 0)
	checkStep(t, y, -1, 'a', 0)
}

// 20.2: where states lead themselves, and by those to which they fall back, by an example.
func TestFalls(t *testing.T) {
	// The states are the empty one, h, s, he, sh, her, she, hers.
	y := checkTable(t, "he", "hers", "she")
	for s, x := range []struct {
		// next and step is where e, h, r, s lead.
		next, step [4]int
	}{
		{[4]int{0, 1, 0, 2}, [4]int{0, 1, 0, 2}},
		{[4]int{3, 0, 0, 0}, [4]int{3, 1, 0, 2}},
		{[4]int{0, 4, 0, 0}, [4]int{0, 4, 0, 2}},
		{[4]int{0, 0, 5, 0}, [4]int{0, 1, 5, 2}},
		{[4]int{6, 0, 0, 0}, [4]int{6, 1, 0, 2}},
		{[4]int{0, 0, 0, 7}, [4]int{0, 1, 0, 7}},
		{[4]int{0, 0, 0, 0}, [4]int{0, 1, 5, 2}},
		{[4]int{0, 0, 0, 0}, [4]int{0, 4, 0, 2}},
	} {
		for i, c := range []byte("ehrs") {
			checkNext(t, y, s, c, x.next[i], x.next[i] > 0)
			checkStep(t, y, s, c, x.step[i])
		}
	}
	// The first state that aabaaa falls back to does not lead on by b; the next one does.
	y = checkTable(t, "aabaaab")
	checkStep(t, y, 5, 'b', 3)
	checkStep(t, y, 6, 'a', 2)
	checkStep(t, y, 6, 'b', 7)
	checkStep(t, y, 7, 'a', 4)
	checkStep(t, y, 7, 'c', 0)
}

// 20.1, 20.2, 20.3: all sets of few short patterns.
func TestShortSets(t *testing.T) {
	for _, some := range [][]string{
		texts("ab", 2)[1:],
		texts("ab", 3)[7:],
		texts("\x00\xff", 2)[1:],
		{"a", "ab", "abc", "ac", "abca", "bca", "cab", "cc"},
		{"\x00", "\x00\x01\xff", "\x01\x00", "\x01\x02", "\xff\x00", "\xff\xfe\x00", "\xff\xff"},
		{"aaaaa", "aabaab", "abaababa", "babaabab", "bb", "baa"},
	} {
		subsets(some, func(l []string) {
			checkTable(t, l...)
		})
	}
}

// 20.2: a table leads as links do, whatever text is gone through.
func TestLinks(t *testing.T) {
	own := mixed(all(), 300)
	x := setOf(t, "he", "hers", "his", "she", own, own[100:]+own[:99], own[7:55], own[55:], mixed("hers", 500), mixed("hei", 700))
	y, k := sparse.New(x), link.New(x)
	for _, text := range []string{own + own, strings.Join(x.List(), ""), strings.Join(x.List(), "\x00"), mixed("hers", 9999), mixed("heis", 9999), mixed(all(), 9999)} {
		one, other := 0, 0
		for i := range len(text) {
			one, other = y.Step(one, text[i]), k.Step(other, text[i])
			if one != other {
				t.Fatalf("%d bytes lead to %d; want %d", i+1, one, other)
			}
		}
	}
	checkLinks(t, y, x, 1)
}

// 20.1, 20.2, 20.3: rows of few bytes, and of many, that lie over each other in whatever way: the bytes of states' rows are mixed.
func TestRows(t *testing.T) {
	for _, size := range []int{1, 2, 3, 8, 30, 100, 250} {
		var l []string
		for i := range 2000 / size {
			for j := range size {
				n := uint32(i*size+j)*2654435761 + 7
				l = append(l, string([]byte{byte(i), byte(i >> 8), byte(n >> 24)}))
			}
		}
		slices.Sort(l)
		x := setOf(t, slices.Compact(l)...)
		checkLinks(t, sparse.New(x), x, 1)
	}
}

// 20.1, 20.2: each byte, as the only one by which states lead on, and as the only one by which the root does not; then all of them.
func TestEachByte(t *testing.T) {
	s := all()
	var singles, doubles []string
	for c := range 256 {
		p, next := s[c:c+1], string([]byte{byte(c + 1)})
		singles = append(singles, p)
		doubles = append(doubles, p+next)
	}
	for c, p := range singles {
		y := checkTable(t, p)
		checkLen(t, y, 2)
		checkCells(t, y, 1)
		checkTable(t, p+p+p, doubles[c])
		x := setOf(t, slices.Concat(singles[:c], singles[c+1:])...)
		y = sparse.New(x)
		checkNext(t, y, 0, byte(c), 0, false)
		checkCells(t, y, 1)
		checkLinks(t, y, x, 1)
	}
	y := checkTable(t, singles...)
	checkLen(t, y, 257)
	checkCells(t, y, 1)
	checkTable(t, doubles...)
	checkTable(t, s, s[1:]+s[:1])
}

// 20.1, 20.2: a nil table has nothing; that of a nil set has the root, which leads on nowhere.
func TestNil(t *testing.T) {
	for _, y := range []*sparse.Table{nil, {}} {
		checkLen(t, y, 0)
		if n := y.Cells(); n != 0 {
			t.Errorf("Cells: %d; want 0", n)
		}
		checkNoState(t, y)
		checkNext(t, y, 0, 'a', 0, false)
		checkStep(t, y, 0, 'a', 0)
	}
	y := sparse.New(nil)
	checkLen(t, y, 1)
	checkCells(t, y, 0)
	for c := range 256 {
		checkNext(t, y, 0, byte(c), 0, false)
		checkStep(t, y, 0, byte(c), 0)
	}
	checkNoState(t, y)
}

// 20.1, 20.2, 20.3: the longest pattern, of like bytes, the least and the greatest among them, of two in turn, and of all bytes.
func TestLong(t *testing.T) {
	const n = api.MaxPattern
	for _, c := range []byte("\x00a\xff") {
		y := sparse.New(setOf(t, strings.Repeat(string([]byte{c}), n)))
		checkLen(t, y, n+1)
		checkCells(t, y, n)
		for s := range n {
			checkNext(t, y, s, c, s+1, true)
			checkStep(t, y, s, c, s+1)
			checkNext(t, y, s, c+1, 0, false)
			checkNext(t, y, s, c-1, 0, false)
		}
		checkNext(t, y, n, c, 0, false)
		checkStep(t, y, n, c, n)
		checkStep(t, y, n, c+1, 0)
		checkNoState(t, y)
	}
	for _, p := range []string{strings.Repeat("ab", n/2) + "a", strings.Repeat("\xff\x00", n/2) + "a"} {
		x := setOf(t, p)
		y := sparse.New(x)
		// From a long state each byte that is behind none falls back through all that are alike.
		checkLinks(t, y, x, n/9)
		for s := range n {
			checkNext(t, y, s, 'c', 0, false)
			checkNext(t, y, s, p[s]+1, 0, false)
			checkNext(t, y, s, p[s]-1, 0, false)
		}
	}
	x := setOf(t, mixed(all(), n))
	checkLinks(t, sparse.New(x), x, 7)
}

// 20.1, 20.2, 20.3: the most patterns, all of two bytes: the number of each state tells its bytes.
func TestMostPatterns(t *testing.T) {
	var l []string
	for i := range api.MaxPatterns {
		l = append(l, string([]byte{byte(i >> 8), byte(i)}))
	}
	y := sparse.New(setOf(t, l...))
	checkLen(t, y, 257+api.MaxPatterns)
	checkCells(t, y, 257)
	for c := range 256 {
		checkNext(t, y, 0, byte(c), 1+c, true)
	}
	for i := range l {
		first, last := i>>8, byte(i)
		checkNext(t, y, 1+first, last, 257+i, true)
		checkStep(t, y, 1+first, last, 257+i)
		checkNext(t, y, 257+i, last, 0, false)
		if i&255 < 255 {
			checkStep(t, y, 257+i, 7, 257+i&255<<8+7)
		}
	}
	// The two bytes that are no pattern lead no further than one.
	checkNext(t, y, 256, 255, 0, false)
	checkStep(t, y, 256, 255, 256)
	checkNoState(t, y)
}

// 20.1, 20.2, 20.3: about as many states as patterns can have bytes; all rows but the root's are of the greatest byte alone, for which a cell that is free further ahead is of no use.
func TestMostBytes(t *testing.T) {
	const n = api.MaxPattern
	var l []string
	for c := 1; c < 256; c++ {
		l = append(l, string([]byte{byte(c)})+strings.Repeat("\xff", n-1))
	}
	y := sparse.New(setOf(t, l...))
	const last = 255 * (n - 1)
	checkLen(t, y, 1+last+255)
	checkCells(t, y, 1+last)
	for s := 1; s <= last; s++ {
		next, ok := y.Next(s, 255)
		if next != s+255 || !ok || y.Step(s, 255) != next {
			checkNext(t, y, s, 255, s+255, true)
			checkStep(t, y, s, 255, s+255)
			t.Fatalf("of the state %d", s)
		}
		if next, ok = y.Next(s, byte(s)%255); next != 0 || ok {
			checkNext(t, y, s, byte(s)%255, 0, false)
			t.Fatalf("of the state %d", s)
		}
	}
	checkNext(t, y, 0, 0, 0, false)
	for c := 1; c < 256; c++ {
		checkNext(t, y, 0, byte(c), c, true)
		checkNext(t, y, last+c, 255, 0, false)
		// All that is behind the first byte is the greatest one.
		checkStep(t, y, last+c, 255, last+255)
		checkStep(t, y, last+c, byte(c)-1, c-1)
	}
	checkNoState(t, y)
}

// 20.1, 20.2: tables of the same set are the same, whatever is asked of them, and the set stays as it is.
func TestAgain(t *testing.T) {
	l := []string{"a", "aab", "aabb", "abb", "bba", "bbaaa", "bbab", "z"}
	x := setOf(t, l...)
	y, again := sparse.New(x), sparse.New(x)
	other := sparse.New(setOf(t, "a", "x\xff"))
	for range 2 {
		if y.Cells() != again.Cells() {
			t.Errorf("Cells: %d; again %d", y.Cells(), again.Cells())
		}
		for s := range y.Len() {
			for c := range 256 {
				next, ok := y.Next(s, byte(c))
				checkNext(t, again, s, byte(c), next, ok)
				checkStep(t, again, s, byte(c), y.Step(s, byte(c)))
			}
		}
		checkNext(t, other, 0, 'x', 2, true)
		checkNext(t, other, 2, 255, 3, true)
		checkNext(t, other, 0, 'b', 0, false)
		checkStep(t, other, 3, 'x', 2)
	}
	if !slices.Equal(x.List(), slices.Sorted(slices.Values(l))) {
		t.Errorf("the set is %.40q; want it as it was", x.List())
	}
	checkTable(t, l...)
}
