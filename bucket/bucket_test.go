package bucket_test

import (
	"iter"
	"slices"
	"strconv"
	"strings"
	"testing"

	"jurat/api"
	"jurat/bucket"
	"jurat/pats"
)

// texts is all texts of 1 to so many bytes out of some.
func texts(some string, most int) []string {
	l := []string{""}
	for i := 0; i < len(l); i++ {
		if len(l[i]) == most {
			continue
		}
		for k := range len(some) {
			l = append(l, l[i]+some[k:k+1])
		}
	}
	return l[1:]
}

// subsets calls f with each list of some texts that has one at least, each at most once.
func subsets(some []string, f func([]string)) {
	for bits := 1; bits < 1<<len(some); bits++ {
		var l []string
		for i, s := range some {
			if bits>>i&1 == 1 {
				l = append(l, s)
			}
		}
		f(l)
	}
}

// numbers is so many texts of digits alone, no two of them the same, which end with all digits.
func numbers(n int) []string {
	var l []string
	for i := range n {
		l = append(l, strconv.Itoa(i))
	}
	return l
}

// setOf is the set of texts that are one.
func setOf(t *testing.T, l ...string) *pats.Set {
	t.Helper()
	x, e := pats.New(l)
	if x == nil || e != api.OK {
		t.Fatalf("pats.New of %d texts %.40q: %v; want a set", len(l), l[:min(len(l), 9)], e)
	}
	return x
}

// wantOf is the numbers of the patterns that end with a byte, of a set that has these in order.
func wantOf(l []string, c byte) []int {
	var ids []int
	for id, s := range l {
		if strings.HasSuffix(s, string([]byte{c})) {
			ids = append(ids, id)
		}
	}
	return ids
}

// wantLeast is how long the shortest of the patterns with these numbers is.
func wantLeast(l []string, ids []int) int {
	if len(ids) == 0 {
		return 0
	}
	var lengths []int
	for _, id := range ids {
		lengths = append(lengths, len(l[id]))
	}
	return slices.Min(lengths)
}

// wantBytes is the bytes with which one of the patterns ends.
func wantBytes(l []string) string {
	var b []byte
	for c := range 256 {
		if len(wantOf(l, byte(c))) > 0 {
			b = append(b, byte(c))
		}
	}
	return string(b)
}

// first is what one goes through, at most so many.
func first(through iter.Seq[int], most int) []int {
	var l []int
	if most == 0 {
		return nil
	}
	for id := range through {
		l = append(l, id)
		if len(l) == most {
			break
		}
	}
	return l
}

// checkBucket asks all that is told of a byte's bucket.
func checkBucket(t *testing.T, b *bucket.Buckets, c byte, ids []int, least int) {
	t.Helper()
	if l := b.Of(c); !slices.Equal(l, ids) {
		t.Errorf("Of(%q): %d numbers %v; want %d: %v", c, len(l), l[:min(len(l), 9)], len(ids), ids[:min(len(ids), 9)])
	}
	if n := b.Least(c); n != least {
		t.Errorf("Least(%q): %d; want %d", c, n, least)
	}
	if l := first(b.Each(c), -1); !slices.Equal(l, ids) {
		t.Errorf("Each(%q): %d numbers %v; want %d: %v", c, len(l), l[:min(len(l), 9)], len(ids), ids[:min(len(ids), 9)])
	}
}

func checkBytes(t *testing.T, b *bucket.Buckets, want string) {
	t.Helper()
	if s := b.Bytes(); s != want {
		t.Errorf("Bytes: %q; want %q", s, want)
	}
}

// checkEmpty asks buckets that are all empty.
func checkEmpty(t *testing.T, b *bucket.Buckets) {
	t.Helper()
	checkBytes(t, b, "")
	for c := range 256 {
		checkBucket(t, b, byte(c), nil, 0)
	}
}

// checkBuckets asks the buckets of the set that has these patterns, in whatever order they stand.
func checkBuckets(t *testing.T, l []string) {
	t.Helper()
	x := setOf(t, l...)
	b, sorted := bucket.New(x), slices.Sorted(slices.Values(l))
	checkBytes(t, b, wantBytes(sorted))
	for c := range 256 {
		ids := wantOf(sorted, byte(c))
		checkBucket(t, b, byte(c), ids, wantLeast(sorted, ids))
	}
	checkOnce(t, b, x.Len())
}

// checkOnce goes through all buckets, and asks whether each pattern is in just one (12.3).
func checkOnce(t *testing.T, b *bucket.Buckets, n int) {
	t.Helper()
	met := make([]int, n)
	for c := range 256 {
		for id := range b.Each(byte(c)) {
			if id < 0 || id >= n {
				t.Fatalf("Each(%q): %d; there are %d patterns", byte(c), id, n)
			}
			met[id]++
		}
	}
	for id, k := range met {
		if k != 1 {
			t.Errorf("the pattern %d is in %d buckets; want 1", id, k)
		}
	}
}

// 12.1, 12.2: the chapter's example.
func TestExample(t *testing.T) {
	b := bucket.New(setOf(t, "ab", "b", "c"))
	checkBytes(t, b, "bc")
	checkBucket(t, b, 'b', []int{0, 1}, 1)
	checkBucket(t, b, 'c', []int{2}, 1)
	checkBucket(t, b, 'a', nil, 0)
}

// 12.1, 12.2: buckets, by examples: the shortest one has any number, the patterns come in any order, and bytes are told by their numbers.
func TestBuckets(t *testing.T) {
	type told struct {
		c     byte
		ids   []int
		least int
	}
	for _, x := range []struct {
		l     []string
		bytes string
		all   []told
	}{
		{[]string{"a"}, "a", []told{{'a', []int{0}, 1}, {'b', nil, 0}, {0, nil, 0}, {'A', nil, 0}}},
		{[]string{"abc"}, "c", []told{{'a', nil, 0}, {'b', nil, 0}, {'c', []int{0}, 3}}},
		{[]string{"c", "b", "ab"}, "bc", []told{{'b', []int{0, 1}, 1}, {'c', []int{2}, 1}}},
		{[]string{"aaax", "bx", "cccccx"}, "x", []told{{'x', []int{0, 1, 2}, 2}, {'a', nil, 0}}},
		{[]string{"ax", "bbx", "cccx"}, "x", []told{{'x', []int{0, 1, 2}, 2}}},
		{[]string{"cx", "bbx", "aaax"}, "x", []told{{'x', []int{0, 1, 2}, 2}}},
		{[]string{"he", "she", "his", "hers"}, "es", []told{{'e', []int{0, 3}, 2}, {'s', []int{1, 2}, 3}, {'h', nil, 0}}},
		{[]string{"aab", "ba", "bb", "abba"}, "ab", []told{{'a', []int{1, 2}, 2}, {'b', []int{0, 3}, 2}}},
		{[]string{"\x00", "a\x00", "\xff", "\x00\xff", "\x80", "\x7f"}, "\x00\x7f\x80\xff", []told{{0, []int{0, 2}, 1}, {0x7f, []int{3}, 1}, {0x80, []int{4}, 1}, {0xff, []int{1, 5}, 1}}},
		{[]string{"\u00e4", "\u00a4"}, "\xa4", []told{{0xa4, []int{0, 1}, 2}, {0xe4, nil, 0}, {0xc3, nil, 0}}},
	} {
		b := bucket.New(setOf(t, x.l...))
		checkBytes(t, b, x.bytes)
		for _, w := range x.all {
			checkBucket(t, b, w.c, w.ids, w.least)
		}
		checkBuckets(t, x.l)
	}
}

// 12.1, 12.2, 12.3: all sets of few short texts.
func TestShortSets(t *testing.T) {
	for _, some := range [][]string{
		texts("ab", 2),
		texts("\x00\xff", 2),
		{"a", "b", "aa", "ab", "ba", "aab", "abb", "bbbb"},
	} {
		subsets(some, func(l []string) {
			checkBuckets(t, l)
		})
	}
	checkBuckets(t, texts("ab", 9))
	checkBuckets(t, texts("\x00a\x80\xff", 4))
}

// 12.1, 12.2: each byte, as the last one, as one that is not, and as the only one that is none's last.
func TestAllBytes(t *testing.T) {
	var alone, ahead, behind []string
	for c := range 256 {
		s := string([]byte{byte(c)})
		checkBuckets(t, []string{s})
		checkBuckets(t, []string{s + "a" + s, s + "b"})
		alone, ahead, behind = append(alone, s), append(ahead, s+"a"), append(behind, "a"+s)
	}
	checkBuckets(t, alone)
	checkBuckets(t, ahead)
	checkBuckets(t, behind)
	for c := range 256 {
		b := bucket.New(setOf(t, slices.Delete(slices.Clone(behind), c, c+1)...))
		checkBucket(t, b, byte(c), nil, 0)
		checkBytes(t, b, strings.Join(slices.Delete(slices.Clone(alone), c, c+1), ""))
	}
}

// 12.1, 12.2: of nil buckets, and of those of a nil set, each is empty.
func TestNil(t *testing.T) {
	checkEmpty(t, nil)
	checkEmpty(t, bucket.New(nil))
	checkEmpty(t, &bucket.Buckets{})
}

// 12.1: the longest patterns, and the most.
func TestLimits(t *testing.T) {
	long := strings.Repeat("a", api.MaxPattern)
	checkBuckets(t, []string{long})
	checkBuckets(t, []string{long, long[1:] + "b", long[2:] + "b"})
	checkBuckets(t, []string{long, "aa"})
	checkBucket(t, bucket.New(setOf(t, long)), 'a', []int{0}, api.MaxPattern)

	l := numbers(api.MaxPatterns)
	checkBuckets(t, l)
	for i, s := range l {
		l[i] = s + "x"
	}
	b := bucket.New(setOf(t, l...))
	checkOnce(t, b, api.MaxPatterns)
	checkBytes(t, b, "x")
	checkBucket(t, b, 'x', wantOf(slices.Sorted(slices.Values(l)), 'x'), 2)
}

// 12.2: one may leave off anywhere, and begin again, and go through one bucket within another one, or within itself.
func TestEach(t *testing.T) {
	b := bucket.New(setOf(t, "ab", "b", "bb", "bc", "c", "cb"))
	through, want := b.Each('b'), []int{0, 1, 2, 5}
	for range 2 {
		for most := range len(want) + 1 {
			if l := first(through, most); !slices.Equal(l, want[:most]) {
				t.Errorf("the first %d of Each: %v; want %v", most, l, want[:most])
			}
		}
	}
	var met, wanted [][2]int
	for i := range through {
		for _, each := range []iter.Seq[int]{through, b.Each('b'), b.Each('c'), b.Each('a')} {
			for k := range each {
				met = append(met, [2]int{i, k})
			}
		}
	}
	for _, i := range want {
		for _, k := range slices.Concat(want, want, []int{3, 4}) {
			wanted = append(wanted, [2]int{i, k})
		}
	}
	if !slices.Equal(met, wanted) {
		t.Errorf("one within another: %v; want %v", met, wanted)
	}
}

// R1: nothing is told any more once one has left off, though a function is asked that tells nothing of it.
func TestLeftOff(t *testing.T) {
	b := bucket.New(setOf(t, "a", "aa", "aaa"))
	for most := 1; most <= 3; most++ {
		n := 0
		b.Each('a')(func(int) bool {
			n++
			return n < most
		})
		if n != most {
			t.Errorf("told %d times; want %d", n, most)
		}
	}
}

// R4: lists that are answered share nothing with one another, nor with the buckets, nor with what one goes through.
func TestMemory(t *testing.T) {
	l := []string{"a", "ba", "ca", "b"}
	b := bucket.New(setOf(t, l...))
	through, kept := b.Each('a'), b.Of('a')
	for range through {
		a := b.Of('a')
		clear(a[:cap(a)])
	}
	want := []int{0, 2, 3}
	if !slices.Equal(kept, want) {
		t.Errorf("a list that was answered is now %v; want %v", kept, want)
	}
	if met := first(through, -1); !slices.Equal(met, want) {
		t.Errorf("one goes through %v; want %v", met, want)
	}
	checkBucket(t, b, 'a', want, 1)
	checkBucket(t, b, 'b', []int{1}, 1)
}

// R5: the same again, and buckets know nothing of each other; their set stays as it is.
func TestAgain(t *testing.T) {
	x := setOf(t, "b", "ab", "c")
	b := bucket.New(x)
	for range 3 {
		other := bucket.New(setOf(t, "xb", "b", "abb", "d"))
		checkBytes(t, b, "bc")
		checkBucket(t, b, 'b', []int{0, 1}, 1)
		checkBytes(t, other, "bd")
		checkBucket(t, other, 'b', []int{0, 1, 3}, 1)
		checkBucket(t, bucket.New(x), 'b', []int{0, 1}, 1)
		checkBucket(t, b, 'd', nil, 0)
		if l := x.List(); !slices.Equal(l, []string{"ab", "b", "c"}) {
			t.Errorf("the set is now %q", l)
		}
	}
}
