package auto_test

import (
	"cmp"
	"math"
	"slices"
	"strings"
	"testing"

	"jurat/api"
	"jurat/auto"
	"jurat/link"
	"jurat/pats"
)

// kinds is all kinds of tables.
func kinds() []int {
	return []int{api.Dense, api.Sparse, api.Links}
}

// texts is all texts of at most so many bytes out of some, the shortest first.
func texts(some string, most int) []string {
	l := []string{""}
	for i := 0; i < len(l); i++ {
		if len(l[i]) == most {
			continue
		}
		for k := range len(some) {
			l = append(l, l[i]+some[k:k+1])
		}
	}
	return l
}

// subsets calls f with each list of some texts that has one at least, each at most once.
func subsets(some []string, f func([]string)) {
	for bits := 1; bits < 1<<len(some); bits++ {
		var l []string
		for i, s := range some {
			if bits>>i&1 == 1 {
				l = append(l, s)
			}
		}
		f(l)
	}
}

// mixed is a text of some bytes, in which they stand mixed.
func mixed(some string, size int) string {
	b, n := []byte{}, uint32(size)
	for range size {
		n = n*1664525 + 1013904223
		b = append(b, some[int(n>>16)%len(some)])
	}
	return string(b)
}

// all is all bytes, from the least one on.
func all() string {
	var b []byte
	for c := range 256 {
		b = append(b, byte(c))
	}
	return string(b)
}

// setOf is the set of texts that are one.
func setOf(t *testing.T, l ...string) *pats.Set {
	t.Helper()
	x, e := pats.New(l)
	if x == nil || e != api.OK {
		t.Fatalf("pats.New of %d texts %.40q: %v; want a set", len(l), l[:min(len(l), 9)], e)
	}
	return x
}

// autoOf is the automaton of a set, by a kind of table that there is.
func autoOf(t *testing.T, x *pats.Set, kind int) *auto.Auto {
	t.Helper()
	a, e := auto.New(x, kind)
	if a == nil || e != api.OK {
		t.Fatalf("New(…, %d): %v, %v; want an automaton", kind, a, e)
	}
	if n := a.Kind(); n != kind {
		t.Errorf("Kind: %d; want %d", n, kind)
	}
	return a
}

// words is what the chapters word of a set: its patterns and its states, both in order, and the numbers of the states.
type words struct {
	own, list []string
	states    map[string]int
}

// wordsOf is that of patterns.
func wordsOf(l []string) words {
	w := words{own: slices.Sorted(slices.Values(l)), states: map[string]int{}}
	for _, p := range l {
		for n := range len(p) + 1 {
			w.list = append(w.list, p[:n])
		}
	}
	slices.SortFunc(w.list, func(a, b string) int {
		return cmp.Or(len(a)-len(b), strings.Compare(a, b))
	})
	w.list = slices.Compact(w.list)
	for s, p := range w.list {
		w.states[p] = s
	}
	return w
}

// end is the longest state with which a text ends.
func (w words) end(s string) int {
	for {
		if n, ok := w.states[s]; ok {
			return n
		}
		s = s[1:]
	}
}

// hits is the numbers of the patterns with which a text ends.
func (w words) hits(s string) []int {
	var l []int
	for id, p := range w.own {
		if strings.HasSuffix(s, p) {
			l = append(l, id)
		}
	}
	return l
}

// width is how many bytes stand in the patterns, and one for all others.
func (w words) width() int {
	n := 1
	for c := range 256 {
		if strings.IndexByte(strings.Join(w.own, ""), byte(c)) >= 0 {
			n++
		}
	}
	return n
}

func checkLen(t *testing.T, a *auto.Auto, want int) {
	t.Helper()
	if n := a.Len(); n != want {
		t.Errorf("kind %d: Len: %d; want %d", a.Kind(), n, want)
	}
}

func checkStep(t *testing.T, a *auto.Auto, s int, c byte, want int) {
	t.Helper()
	if n := a.Step(s, c); n != want {
		t.Errorf("kind %d: Step(%d, %q): %d; want %d", a.Kind(), s, c, n, want)
	}
}

func checkRun(t *testing.T, a *auto.Auto, s int, text string, want int) {
	t.Helper()
	if n := a.Run(s, text); n != want {
		t.Errorf("kind %d: Run(%d, %.40q): %d; want %d", a.Kind(), s, text, n, want)
	}
}

func checkDepth(t *testing.T, a *auto.Auto, s, want int) {
	t.Helper()
	if n := a.Depth(s); n != want {
		t.Errorf("kind %d: Depth(%d): %d; want %d", a.Kind(), s, n, want)
	}
}

func checkHits(t *testing.T, a *auto.Auto, s int, want ...int) {
	t.Helper()
	if l := a.Hits(s); !slices.Equal(l, want) {
		t.Errorf("kind %d: Hits(%d): %v; want %v", a.Kind(), s, l, want)
	}
}

// checkCells asks for states times classes of a dense table, at most 256 for each state of a sparse one, and at least one for each but the root, and states of links.
func checkCells(t *testing.T, a *auto.Auto, states, classes int) {
	t.Helper()
	least, most := states, states
	switch a.Kind() {
	case api.Dense:
		least, most = states*classes, states*classes
	case api.Sparse:
		least, most = states-1, 256*(states-1)
	}
	if n := a.Cells(); n < least || n > most {
		t.Errorf("kind %d: Cells: %d; want %d at least, and %d at most", a.Kind(), n, least, most)
	}
}

// checkNoState asks for nothing at numbers that are no state's: beyond both ends, at an int's edges, and such as are a state's once they are cut to fewer bits.
func checkNoState(t *testing.T, a *auto.Auto) {
	t.Helper()
	n := a.Len()
	for _, s := range []int{
		math.MinInt, math.MinInt + 1, -n - 1, -n, -2, -1, n, n + 1, 2*n + 3, math.MaxInt - 1, math.MaxInt,
		1 << 31, 1 << 32, 1<<32 + 1, 1<<32 + n - 1, 1 << 62, 1<<62 + 1, -1 << 31, -1 << 32, 1 - 1<<32, n - 1 - 1<<32,
	} {
		if s >= 0 && s < n {
			continue
		}
		checkDepth(t, a, s, 0)
		checkHits(t, a, s)
		checkRun(t, a, s, "", s)
		for c := range 256 {
			checkStep(t, a, s, byte(c), 0)
			checkRun(t, a, s, string([]byte{byte(c)}), 0)
		}
	}
}

// checkAuto asks of an automaton of patterns all that 21.1 and 21.2 tell of it, by the chapters' words, with texts that are run through from each state.
func checkAuto(t *testing.T, a *auto.Auto, w words, runs []string) {
	t.Helper()
	checkLen(t, a, len(w.list))
	checkCells(t, a, len(w.list), w.width())
	for s, p := range w.list {
		checkDepth(t, a, s, len(p))
		checkHits(t, a, s, w.hits(p)...)
		for c := range 256 {
			checkStep(t, a, s, byte(c), w.end(p+string([]byte{byte(c)})))
		}
		for _, text := range runs {
			checkRun(t, a, s, text, w.end(p+text))
		}
	}
	checkNoState(t, a)
}

// checkKinds asks that of the automata of patterns, by all kinds of tables.
func checkKinds(t *testing.T, runs []string, l ...string) {
	t.Helper()
	x, w := setOf(t, l...), wordsOf(l)
	for _, kind := range kinds() {
		checkAuto(t, autoOf(t, x, kind), w, runs)
	}
	if t.Failed() {
		t.Fatalf("of the %d patterns %.40q", len(l), l[:min(len(l), 9)])
	}
}

// 21.1, 21.2: the chapter's example.
func TestExample(t *testing.T) {
	// The states are the empty one, h, s, he, sh, she.
	x := setOf(t, "he", "she")
	for _, kind := range kinds() {
		a := autoOf(t, x, kind)
		checkLen(t, a, 6)
		checkRun(t, a, 0, "xshe", 5)
		checkHits(t, a, 5, 0, 1)
		checkHits(t, a, 3, 0)
		checkHits(t, a, 4)
		checkDepth(t, a, 5, 3)
		checkDepth(t, a, 1, 1)
		checkDepth(t, a, 0, 0)
		checkStep(t, a, 4, 'e', 5)
		checkStep(t, a, 1, 'e', 3)
		checkStep(t, a, 5, 's', 2)
		checkStep(t, a, 5, 'x', 0)
		checkStep(t, a, 2, 'h', 4)
	}
	checkKinds(t, texts("ehsx", 3), "he", "she")
}

// 21.2: the cells of each kind, by an example: four states, three classes, and rows of which the second one lies over the first one's.
func TestCells(t *testing.T) {
	x := setOf(t, "ab", "b")
	for kind, want := range map[int]int{api.Dense: 12, api.Links: 4} {
		if n := autoOf(t, x, kind).Cells(); n != want {
			t.Errorf("kind %d: Cells: %d; want %d", kind, n, want)
		}
	}
	checkCells(t, autoOf(t, x, api.Sparse), 4, 3)
	for kind, want := range map[int]int{api.Dense: 1, api.Sparse: 0, api.Links: 1} {
		if n := autoOf(t, nil, kind).Cells(); n != want {
			t.Errorf("kind %d: Cells of a nil set's: %d; want %d", kind, n, want)
		}
	}
}

// 21.1: numbers that are no kind's, with such as are one's in fewer bits; of a nil set too.
func TestNoKind(t *testing.T) {
	x := setOf(t, "ab", "b")
	for _, kind := range []int{
		math.MinInt, math.MinInt + 1, -3, -2, -1, 0, 4, 5, 255, 256, 257, math.MaxInt, math.MaxInt - 1,
		1<<8 + 2, 1<<16 + 1, 1<<32 + 1, 1<<32 + 2, 1<<32 + 3, 1<<62 + 1, 1 - 1<<32, 3 - 1<<8,
	} {
		for _, set := range []*pats.Set{x, nil} {
			if a, e := auto.New(set, kind); a != nil || e != api.ErrArg {
				t.Errorf("New(…, %d): %v, %v; want nil, %v", kind, a, e, api.ErrArg)
			}
		}
	}
}

// 21.1, 21.2, 21.3: all sets of few short patterns.
func TestShortSets(t *testing.T) {
	for _, some := range [][]string{
		texts("ab", 2)[1:],
		{"aab", "abb", "baa", "bab", "bba", "bbb"},
		texts("\x00\xff", 2)[1:],
		{"a", "ab", "abc", "ac", "abca", "bca", "cab"},
		{"\x00", "\x00\x01\xff", "\x01\x00", "\x01\x02", "\xff\x00", "\xff\xff"},
	} {
		used := strings.Join(some, "")
		runs := append(texts(used[:1]+used[len(used)-1:], 3), used, used+used[1:], used+"?", "?"+used, some[1]+"?"+some[0])
		subsets(some, func(l []string) {
			checkKinds(t, runs, l...)
		})
	}
}

// 21.2: bytes lead on one by one, from what is no state too: its Step is 0, which is a state.
func TestRun(t *testing.T) {
	x := setOf(t, "he", "hers", "his", "she")
	texts := []string{"h", "he", "xhe", "ushers", "hishe", mixed("ehirs", 999), mixed(all(), 999)}
	for _, kind := range kinds() {
		a := autoOf(t, x, kind)
		for _, s := range []int{0, 3, a.Len() - 1, a.Len(), -1, math.MinInt, math.MaxInt} {
			for _, text := range texts {
				at := s
				for i := range len(text) {
					at = a.Step(at, text[i])
				}
				checkRun(t, a, s, text, at)
			}
		}
	}
}

// 21.1, 21.2, 21.3: each kind tells what links do, of patterns of all bytes, and of such that end alike.
func TestKindsAlike(t *testing.T) {
	own := mixed(all(), 300)
	x := setOf(t, "he", "hers", "his", "she", "s", "e", own, own[100:]+own[:99], own[7:55], own[55:], mixed("hers", 500), mixed("hei", 700))
	k := link.New(x)
	for _, kind := range kinds() {
		a := autoOf(t, x, kind)
		checkLen(t, a, k.Trie().Len())
		checkCells(t, a, k.Trie().Len(), wordsOf(x.List()).width())
		for s := range k.Trie().Len() {
			checkDepth(t, a, s, k.Trie().Depth(s))
			checkHits(t, a, s, k.Hits(s)...)
			for c := range 256 {
				if a.Step(s, byte(c)) != k.Step(s, byte(c)) {
					checkStep(t, a, s, byte(c), k.Step(s, byte(c)))
				}
			}
		}
		for _, text := range []string{own + own, strings.Join(x.List(), ""), mixed("hers", 9999), mixed("heis", 9999), mixed(all(), 9999)} {
			at := 0
			for i := range len(text) {
				at = k.Step(at, text[i])
			}
			checkRun(t, a, 0, text, at)
			checkRun(t, a, at, "", at)
		}
		checkNoState(t, a)
	}
}

// 21.1, 21.2: each byte alone is a pattern, and behind another one.
func TestEachByte(t *testing.T) {
	s := all()
	for c := range 256 {
		p := s[c : c+1]
		next := string([]byte{byte(c + 1)})
		checkKinds(t, []string{p, p + next, next + p}, p, p+next)
	}
	checkKinds(t, []string{s, s[1:]}, strings.Split(s[:128], "")...)
}

// 21.1, 21.2: a nil automaton, and one that no call made, have no states; that of a nil set has the root.
func TestNil(t *testing.T) {
	for _, a := range []*auto.Auto{nil, {}} {
		checkLen(t, a, 0)
		checkNoState(t, a)
		for _, n := range []int{a.Kind(), a.Cells(), a.Depth(0), len(a.Hits(0)), a.Step(0, 'a'), a.Run(0, "ab"), a.Run(7, "ab")} {
			if n != 0 {
				t.Errorf("of none: %d; want 0", n)
			}
		}
		for _, s := range []int{0, 1, 99, -1} {
			checkRun(t, a, s, "", s)
		}
	}
	for _, kind := range kinds() {
		a := autoOf(t, nil, kind)
		checkAuto(t, a, words{list: []string{""}, states: map[string]int{"": 0}}, []string{"", "a", all()})
		checkLen(t, a, 1)
		checkHits(t, a, 0)
		checkRun(t, a, 0, "abc", 0)
	}
}

// 21.1, 21.2, 21.3: the longest pattern, with one that stands in it.
func TestLong(t *testing.T) {
	const n = api.MaxPattern
	p := strings.Repeat("a", n)
	x := setOf(t, p, "aaa")
	for _, kind := range kinds() {
		a := autoOf(t, x, kind)
		checkLen(t, a, n+1)
		checkCells(t, a, n+1, 2)
		for s := range n {
			checkStep(t, a, s, 'a', s+1)
			checkDepth(t, a, s, s)
		}
		checkRun(t, a, 0, p, n)
		checkRun(t, a, 0, p+p, n)
		checkRun(t, a, 7, p[9:], n-2)
		checkRun(t, a, 0, p+"b", 0)
		checkRun(t, a, 0, p+"ba", 1)
		checkHits(t, a, 2)
		checkHits(t, a, 3, 0)
		checkHits(t, a, n-1, 0)
		checkHits(t, a, n, 0, 1)
		checkNoState(t, a)
	}
}

// 21.1, 21.2, 21.3: the most patterns, all of two bytes: the number of each state tells its bytes.
func TestMostPatterns(t *testing.T) {
	var l []string
	for i := range api.MaxPatterns {
		l = append(l, string([]byte{byte(i >> 8), byte(i)}))
	}
	x := setOf(t, l...)
	for _, kind := range kinds() {
		a := autoOf(t, x, kind)
		checkLen(t, a, 257+api.MaxPatterns)
		checkCells(t, a, 257+api.MaxPatterns, 257)
		for i, p := range l {
			checkRun(t, a, 0, p, 257+i)
			checkHits(t, a, 257+i, i)
			checkDepth(t, a, 257+i, 2)
			checkStep(t, a, 257+i, 7, 257+i&255<<8+7)
		}
		checkHits(t, a, 256)
		checkRun(t, a, 0, "\xff\xff", 256)
		checkNoState(t, a)
	}
}

// R4, R5: the same again; automata know nothing of each other, what is written into an answer changes none, and their set stays as it is.
func TestAgain(t *testing.T) {
	l := []string{"a", "aab", "aabb", "abb", "bba", "bbaaa", "bbab", "z"}
	x := setOf(t, l...)
	for _, kind := range kinds() {
		a, again, other := autoOf(t, x, kind), autoOf(t, x, kind), autoOf(t, setOf(t, "a", "x\xff"), kind)
		for range 2 {
			checkAuto(t, a, wordsOf(l), texts("abz", 3))
			checkAuto(t, again, wordsOf(l), texts("abz", 2))
			checkAuto(t, other, wordsOf([]string{"a", "x\xff"}), texts("ax\xff", 3))
			if a.Cells() != again.Cells() {
				t.Errorf("kind %d: Cells: %d; again %d", kind, a.Cells(), again.Cells())
			}
			bba := a.Run(0, "bba")
			one, two := a.Hits(bba), a.Hits(bba)
			one[0], one[1] = 7, 7
			if !slices.Equal(two, []int{0, 4}) {
				t.Errorf("kind %d: Hits was %v; is %v now", kind, []int{0, 4}, two)
			}
		}
	}
	if !slices.Equal(x.List(), l) {
		t.Errorf("the set is %.40q; want it as it was", x.List())
	}
}
