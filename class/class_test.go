package class_test

import (
	"math"
	"slices"
	"strings"
	"testing"

	"jurat/api"
	"jurat/class"
	"jurat/pats"
)

// texts is all texts of at most so many bytes out of some, the shortest first.
func texts(some string, most int) []string {
	l := []string{""}
	for i := 0; i < len(l); i++ {
		if len(l[i]) == most {
			continue
		}
		for k := range len(some) {
			l = append(l, l[i]+some[k:k+1])
		}
	}
	return l
}

// subsets calls f with each list of some texts that has one at least, each at most once.
func subsets(some []string, f func([]string)) {
	for bits := 1; bits < 1<<len(some); bits++ {
		var l []string
		for i, s := range some {
			if bits>>i&1 == 1 {
				l = append(l, s)
			}
		}
		f(l)
	}
}

// all is all bytes, from the least one on.
func all() string {
	var b []byte
	for c := range 256 {
		b = append(b, byte(c))
	}
	return string(b)
}

// setOf is the set of texts that are one.
func setOf(t *testing.T, l ...string) *pats.Set {
	t.Helper()
	x, e := pats.New(l)
	if x == nil || e != api.OK {
		t.Fatalf("pats.New of %d texts %.40q: %v; want a set", len(l), l[:min(len(l), 9)], e)
	}
	return x
}

// classesOf is the classes of the set of texts that are one.
func classesOf(t *testing.T, l ...string) *class.Classes {
	t.Helper()
	return class.New(setOf(t, l...))
}

// has is whether a byte stands in a text.
func has(s string, c byte) bool {
	return strings.IndexByte(s, c) >= 0
}

// wantBytes is the bytes that stand in one of the patterns, rising.
func wantBytes(l []string) string {
	var b []byte
	for c := range 256 {
		if slices.ContainsFunc(l, func(p string) bool { return has(p, byte(c)) }) {
			b = append(b, byte(c))
		}
	}
	return string(b)
}

// wantForeign is how many bytes of s stand behind the last one that is one of some.
func wantForeign(some, s string) int {
	n := len(s)
	for i := range len(s) {
		if has(some, s[i]) {
			n = len(s) - 1 - i
		}
	}
	return n
}

func checkOf(t *testing.T, k *class.Classes, c byte, want int) {
	t.Helper()
	if n := k.Of(c); n != want {
		t.Errorf("Of(%q): %d; want %d", c, n, want)
	}
}

func checkLen(t *testing.T, k *class.Classes, want int) {
	t.Helper()
	if n := k.Len(); n != want {
		t.Errorf("Len: %d; want %d", n, want)
	}
}

func checkByte(t *testing.T, k *class.Classes, n int, want byte, ok bool) {
	t.Helper()
	if c, is := k.Byte(n); c != want || is != ok {
		t.Errorf("Byte(%d): %q, %v; want %q, %v", n, c, is, want, ok)
	}
}

func checkForeign(t *testing.T, k *class.Classes, s string, want int) {
	t.Helper()
	if n := k.Foreign(s); n != want {
		t.Errorf("Foreign of %d bytes %.40q: %d; want %d", len(s), s, n, want)
	}
}

// checkNoClass asks for the bytes of numbers that are no class with a byte: 0, beyond both ends of so many classes, at an int's edges, and such as are one once they are cut to fewer bits.
func checkNoClass(t *testing.T, k *class.Classes, n int) {
	t.Helper()
	for _, i := range []int{
		math.MinInt, math.MinInt + 1, -n - 1, -n, 1 - n, -256, -255, -2, -1, 0, n, n + 1, 2*n + 3, math.MaxInt - 1, math.MaxInt,
		1 << 16, 1<<16 + 1, 1 << 31, 1 << 32, 1<<32 + 1, 1<<32 + n - 1, 1<<62 + 1, -1 << 31, -1 << 32, 1 - 1<<32, n - 1 - 1<<32,
	} {
		checkByte(t, k, i, 0, false)
	}
	for i := max(n, 1); i < 600; i++ {
		checkByte(t, k, i, 0, false)
	}
}

// checkNone asks classes without a byte that is not foreign, of which there are so many.
func checkNone(t *testing.T, k *class.Classes, n int) {
	t.Helper()
	checkLen(t, k, n)
	checkNoClass(t, k, n)
	if s := k.Bytes(); s != "" {
		t.Errorf("Bytes: %q; want none", s)
	}
	for c := range 256 {
		checkOf(t, k, byte(c), 0)
	}
	for _, s := range []string{"", "a", "\x00", "\xff", "axx", all(), strings.Repeat("a", api.MaxPattern+1)} {
		checkForeign(t, k, s, len(s))
	}
}

// checkClasses asks of the classes of patterns all that 18.1 tells of them, and of texts that the bytes' classes tell.
func checkClasses(t *testing.T, l ...string) *class.Classes {
	t.Helper()
	k, own := classesOf(t, l...), wantBytes(l)
	checkLen(t, k, 1+len(own))
	if s := k.Bytes(); s != own {
		t.Errorf("Bytes: %q; want %q", s, own)
	}
	for c := range 256 {
		// Of one that is not there, the place is -1.
		at := strings.IndexByte(own, byte(c))
		checkOf(t, k, byte(c), 1+at)
		s := string([]byte{byte(c)})
		checkForeign(t, k, s, wantForeign(own, s))
		checkForeign(t, k, own+s, wantForeign(own, s))
		checkForeign(t, k, s+own, 0)
	}
	for i := range len(own) {
		checkByte(t, k, 1+i, own[i], true)
	}
	checkNoClass(t, k, 1+len(own))
	if t.Failed() {
		t.Fatalf("of the %d patterns %.40q", len(l), l[:min(len(l), 9)])
	}
	return k
}

// checkFollows asks what 18.3 tells: that no pattern in s ends with a foreign byte, nor reaches over one, and that greater bytes have greater classes.
func checkFollows(t *testing.T, k *class.Classes, l []string, s string) {
	t.Helper()
	for e := range len(s) + 1 {
		for _, p := range l {
			if !strings.HasSuffix(s[:e], p) {
				continue
			}
			if n := k.Foreign(s[:e]); n > 0 {
				t.Errorf("of %q, in %q: %q ends at %d, of whose bytes the last %d are foreign", l, s, p, e, n)
			}
			for end := e - len(p) + 1; end < e; end++ {
				if n := k.Foreign(s[:end]); n > 0 {
					t.Errorf("of %q, in %q: %q, at the end %d, reaches over %d foreign bytes at %d", l, s, p, e, n, end)
				}
			}
		}
	}
	if rising := k.Bytes(); !slices.IsSortedFunc([]byte(rising), func(a, b byte) int { return k.Of(a) - k.Of(b) }) {
		t.Errorf("of %q: the classes of %q do not rise", l, rising)
	}
}

// 18.1, 18.2: the chapter's example.
func TestExample(t *testing.T) {
	k := checkClasses(t, "ca", "b")
	checkOf(t, k, 'a', 1)
	checkOf(t, k, 'b', 2)
	checkOf(t, k, 'c', 3)
	checkOf(t, k, 'x', 0)
	checkLen(t, k, 4)
	checkByte(t, k, 0, 0, false)
	checkByte(t, k, 1, 'a', true)
	checkByte(t, k, 3, 'c', true)
	checkByte(t, k, 4, 0, false)
	checkForeign(t, k, "axx", 2)
	checkForeign(t, k, "xxa", 0)
	checkForeign(t, k, "axxbx", 1)
	checkForeign(t, k, "xx", 2)
	checkForeign(t, k, "", 0)
}

// 18.1: classes, by examples: a byte has one, however often it stands in how many patterns, and wherever.
func TestClasses(t *testing.T) {
	for _, x := range []struct {
		patterns []string
		bytes    string
	}{
		{[]string{"a"}, "a"},
		{[]string{"aaaa", "aa"}, "a"},
		{[]string{"zyx", "xyz", "y"}, "xyz"},
		{[]string{"he", "hers", "his", "she"}, "ehirs"},
		{[]string{"\xff\x00", "\x80", "\x7f"}, "\x00\x7f\x80\xff"},
		{[]string{"\u00e4"}, "\xa4\xc3"},
		{[]string{"b", "B", " "}, " Bb"},
	} {
		k := checkClasses(t, x.patterns...)
		if s := k.Bytes(); s != x.bytes {
			t.Errorf("of %q: Bytes %q; want %q", x.patterns, s, x.bytes)
		}
	}
}

// 18.2: how many of the last bytes are foreign, by examples: those ahead of the last one that is not do not count.
func TestForeign(t *testing.T) {
	k := classesOf(t, "a\x00", "\xff")
	for _, x := range []struct {
		s    string
		want int
	}{
		{"", 0},
		{"a", 0},
		{"b", 1},
		{"bbb", 3},
		{"bba", 0},
		{"bab", 1},
		{"abb", 2},
		{"a\x01\xfe", 2},
		{"\x00\x01", 1},
		{"\x01\x00", 0},
		{"\xff\xfe", 1},
		{"\xfe\xff", 0},
		{"A", 1},
		{"axxxxxxxxxxxxxxa", 0},
		{"axxxxxxxxxxxxxx", 14},
		{"\xc3\xbf", 2},
	} {
		checkForeign(t, k, x.s, x.want)
	}
}

// 18.1, 18.2, 18.3: all sets of few short patterns, with all short texts.
func TestShortSets(t *testing.T) {
	for _, x := range []struct {
		bytes    string
		patterns []string
		most     int
	}{
		{"abx", texts("ab", 2)[1:], 5},
		{"\x00\x7f\xff", texts("\x00\xff", 2)[1:], 5},
		{"abcx", []string{"a", "bb", "cab", "abc", "cc", "xc"}, 5},
		{"abcd", []string{"aa", "aba", "dc", "dcd", "ccc"}, 5},
	} {
		some := texts(x.bytes, x.most)
		subsets(x.patterns, func(l []string) {
			k, own := checkClasses(t, l...), wantBytes(l)
			for _, s := range some {
				checkForeign(t, k, s, wantForeign(own, s))
			}
			for _, s := range some[len(some)-len(some)/3:] {
				checkFollows(t, k, l, s)
			}
		})
	}
}

// 18.1, 18.2, 18.3: each byte, as the only one that is not foreign, and as the only one that is; then all of them, and all pairs.
func TestEachByte(t *testing.T) {
	s := all()
	for c := range 256 {
		one, rest := s[c:c+1], s[:c]+s[c+1:]
		k := checkClasses(t, one)
		checkOf(t, k, byte(c), 1)
		checkLen(t, k, 2)
		checkForeign(t, k, s, 255-c)
		k = checkClasses(t, rest)
		checkOf(t, k, byte(c), 0)
		checkLen(t, k, 256)
		checkForeign(t, k, rest+one+one, 2)
		checkForeign(t, k, one+rest, 0)
		checkClasses(t, s[:c+1])
		checkClasses(t, s[c:])
	}
	k := checkClasses(t, s)
	checkLen(t, k, 257)
	for c := range 256 {
		checkOf(t, k, byte(c), 1+c)
		checkByte(t, k, 1+c, byte(c), true)
	}
	checkForeign(t, k, s, 0)
	for c := range 256 {
		for d := c + 1; d < 256; d++ {
			k = classesOf(t, s[d:d+1]+s[c:c+1])
			if k.Of(byte(c)) != 1 || k.Of(byte(d)) != 2 || k.Len() != 3 || k.Bytes() != s[c:c+1]+s[d:d+1] {
				t.Fatalf("of %q, %q: classes %d, %d of %d", s[c], s[d], k.Of(byte(c)), k.Of(byte(d)), k.Len())
			}
		}
	}
}

// 18.1, 18.2: of nil classes each byte is foreign, and there is nothing else; those of a nil set have the class of foreign bytes alone.
func TestNil(t *testing.T) {
	checkNone(t, nil, 0)
	checkNone(t, class.New(nil), 1)
}

// 18.1, 18.2: the longest pattern, with a byte of its own at the one end, in the midst or at the other one; and long texts.
func TestLong(t *testing.T) {
	const n = api.MaxPattern
	for _, at := range []int{0, 1, 255, 256, n / 2, n - 2, n - 1} {
		k := checkClasses(t, strings.Repeat("m", at)+"z"+strings.Repeat("m", n-1-at))
		checkOf(t, k, 'm', 1)
		checkOf(t, k, 'z', 2)
		k = checkClasses(t, "y", "a", strings.Repeat("m", at)+"b"+strings.Repeat("m", n-1-at))
		checkOf(t, k, 'b', 2)
		checkOf(t, k, 'y', 4)
	}
	k := classesOf(t, "a")
	for _, n := range []int{255, 256, 257, 65535, 65536, 65537, 1 << 20} {
		checkForeign(t, k, strings.Repeat("b", n), n)
		checkForeign(t, k, "a"+strings.Repeat("b", n), n)
		checkForeign(t, k, strings.Repeat("b", n)+"a", 0)
	}
}

// 18.1: the most patterns, of which any one may be the only one that has a byte; and the most bytes that all may have.
func TestMost(t *testing.T) {
	var l []string
	for i := range api.MaxPatterns {
		l = append(l, strings.Map(func(c rune) rune { return 'a' + c - '0' }, number(i)))
	}
	checkLen(t, classesOf(t, l...), 11)
	for _, i := range []int{0, 1, 255, 256, len(l) / 2, len(l) - 1} {
		ahead := l[i]
		for _, one := range []string{"A", "az", "m\xff"} {
			l[i] = one
			k, last := classesOf(t, l...), one[len(one)-1]
			checkLen(t, k, 11+len(strings.Trim(one, "a")))
			if k.Of(last) == 0 {
				t.Errorf("Of(%q) is 0; it stands in the pattern %q", last, one)
			}
		}
		l[i] = ahead
	}

	var long []string
	total := 0
	for i := range 256 {
		long = append(long, string([]byte{byte(i)})+strings.Repeat("a", api.MaxPattern-1))
		total += api.MaxPattern
	}
	long = append(long, strings.Repeat("b", api.MaxTotal-total))
	checkClasses(t, long...)
}

// number is a number of five digits, with 0s ahead.
func number(n int) string {
	b := []byte("00000")
	for i := len(b) - 1; i >= 0; i-- {
		b[i] += byte(n % 10)
		n /= 10
	}
	return string(b)
}

// R4, R5: the same again, in whatever order the patterns come; classes know nothing of each other, and their set stays as it is.
func TestAgain(t *testing.T) {
	set := setOf(t, "ca", "b")
	k := class.New(set)
	for range 3 {
		other := classesOf(t, "xx", "ax")
		checkOf(t, other, 'x', 2)
		checkOf(t, other, 'b', 0)
		for _, same := range []*class.Classes{k, class.New(set), classesOf(t, "b", "ca")} {
			checkLen(t, same, 4)
			checkOf(t, same, 'b', 2)
			checkOf(t, same, 'x', 0)
			checkByte(t, same, 3, 'c', true)
			checkForeign(t, same, "axx", 2)
			b := []byte(same.Bytes())
			clear(b)
			if s := same.Bytes(); s != "abc" {
				t.Errorf("Bytes: %q; want %q", s, "abc")
			}
		}
		if l := set.List(); !slices.Equal(l, []string{"b", "ca"}) {
			t.Errorf("the set is now %q", l)
		}
	}
}
