package ring_test

import (
	"math"
	"strings"
	"testing"

	"jurat/api"
	"jurat/ring"
)

// all is all bytes, from the least one on.
func all() string {
	var b []byte
	for c := range 256 {
		b = append(b, byte(c))
	}
	return string(b)
}

// texts calls f with each text of at most so many bytes out of some.
func texts(some string, most int, f func(string)) {
	var grow func(string)
	grow = func(s string) {
		f(s)
		if len(s) == most {
			return
		}
		for i := range len(some) {
			grow(s + some[i:i+1])
		}
	}
	grow("")
}

// ringOf is a ring of a size that there is.
func ringOf(t *testing.T, size int) *ring.Ring {
	t.Helper()
	r, e := ring.New(size)
	if r == nil || e != api.OK {
		t.Fatalf("New(%d): %v, %v; want a ring", size, r, e)
	}
	return r
}

// written is a ring of a size to which a text came.
func written(t *testing.T, size int, s string) *ring.Ring {
	t.Helper()
	r := ringOf(t, size)
	r.Write(s)
	return r
}

// kept is the last bytes of a text, at most so many, as the chapter words it.
func kept(came string, size int) string {
	for len(came) > size {
		came = came[1:]
	}
	return came
}

func checkAt(t *testing.T, r *ring.Ring, d int, c byte, ok bool) {
	t.Helper()
	if b, o := r.At(d); b != c || o != ok {
		t.Errorf("At(%d): %d, %v; want %d, %v", d, b, o, c, ok)
	}
}

func checkTail(t *testing.T, r *ring.Ring, n int, want string) {
	t.Helper()
	if s := r.Tail(n); s != want {
		t.Errorf("Tail(%d): %.40q; want %.40q", n, s, want)
	}
}

func checkEnds(t *testing.T, r *ring.Ring, s string, want bool) {
	t.Helper()
	if ok := r.Ends(s); ok != want {
		t.Errorf("Ends(%.40q): %v; want %v", s, ok, want)
	}
}

// checkCounts asks how many bytes are kept, and how many came.
func checkCounts(t *testing.T, r *ring.Ring, kept, seen int) {
	t.Helper()
	if n := r.Len(); n != kept {
		t.Errorf("Len: %d; want %d", n, kept)
	}
	if n := r.Seen(); n != seen {
		t.Errorf("Seen: %d; want %d", n, seen)
	}
}

// checkRing asks all that 7.2 tells of a ring to which seen bytes came, of which it keeps those of a text.
func checkRing(t *testing.T, r *ring.Ring, kept string, seen int) {
	t.Helper()
	n := len(kept)
	checkCounts(t, r, n, seen)
	for d := range n {
		checkAt(t, r, d, kept[n-1-d], true)
	}
	for _, d := range []int{n, n + 1, 2*n + 1, ring.Most, math.MaxInt - 1, math.MaxInt, -1, -n, -n - 1, math.MinInt, math.MinInt + 1} {
		if d < 0 || d >= n {
			checkAt(t, r, d, 0, false)
		}
	}
	for i := range n + 1 {
		checkTail(t, r, i, kept[n-i:])
		checkEnds(t, r, kept[n-i:], true)
	}
	for _, i := range []int{n + 1, 2*n + 1, ring.Most, math.MaxInt - 1, math.MaxInt} {
		checkTail(t, r, i, kept)
	}
	for _, i := range []int{-1, -n, -n - 1, math.MinInt, math.MinInt + 1} {
		if i < 0 {
			checkTail(t, r, i, "")
		}
	}
	checkWrongEnds(t, r, kept)
}

// checkWrongEnds asks for the kept bytes with one of them changed, and with one more ahead or behind: with none of these they end.
func checkWrongEnds(t *testing.T, r *ring.Ring, kept string) {
	t.Helper()
	for i := range len(kept) {
		for _, change := range []byte{1, 128, 255} {
			b := []byte(kept)
			b[i] ^= change
			for from := range i + 1 {
				checkEnds(t, r, string(b[from:]), false)
			}
		}
	}
	for _, c := range []string{"\x00", "a", "\xff"} {
		checkEnds(t, r, c+kept, false)
		checkEnds(t, r, c+kept+kept, false)
		checkEnds(t, r, kept+c, false)
	}
}

// 7.1: sizes that there are, and sizes that there are not.
func TestNew(t *testing.T) {
	if ring.Most != 65536 {
		t.Errorf("Most: %d; want 65536", ring.Most)
	}
	for _, size := range []int{1, 2, 3, 4096, api.MaxPattern, ring.Most - 1, ring.Most} {
		checkRing(t, ringOf(t, size), "", 0)
	}
	for _, size := range []int{0, -1, -2, -ring.Most, ring.Most + 1, 2 * ring.Most, 1 << 32, 1<<32 + 1, math.MaxInt, math.MaxInt - 1, math.MinInt, math.MinInt + 1} {
		if r, e := ring.New(size); r != nil || e != api.ErrArg {
			t.Errorf("New(%d): %v, %v; want nil, %v", size, r, e, api.ErrArg)
		}
	}
}

// 7.1, 7.2: the chapter's example.
func TestExample(t *testing.T) {
	r := written(t, 3, "abcd")
	checkTail(t, r, 9, "bcd")
	checkAt(t, r, 2, 'b', true)
	checkAt(t, r, 3, 0, false)
	checkEnds(t, r, "cd", true)
	checkEnds(t, r, "abcd", false)
	checkRing(t, r, "bcd", 4)
}

// 7.1, 7.2: what is kept of a stream of all bytes, at each of its places, by rings of many sizes.
func TestPush(t *testing.T) {
	s := all() + all()
	for _, size := range []int{1, 2, 3, 4, 5, 7, 8, 9, 16} {
		r := ringOf(t, size)
		for i := range len(s) {
			r.Push(s[i])
			checkRing(t, r, kept(s[:i+1], size), i+1)
		}
	}
	for _, size := range []int{63, 64, 255, 256, 257, 511, 512, 513} {
		checkCounts(t, written(t, size, s), min(size, len(s)), len(s))
		checkTail(t, written(t, size, s), len(s), kept(s, size))
	}
}

// 7.1, 7.2: what is kept of all short streams, by all small rings.
func TestShort(t *testing.T) {
	texts("ab\x00", 6, func(s string) {
		for size := 1; size < 8; size++ {
			checkRing(t, written(t, size, s), kept(s, size), len(s))
		}
	})
}

// 7.2: with which of all short texts all short streams end, as far as they are kept.
func TestEnds(t *testing.T) {
	texts("ab", 6, func(came string) {
		for size := 1; size < 7; size++ {
			r := written(t, size, came)
			texts("ab", 5, func(s string) {
				checkEnds(t, r, s, strings.HasSuffix(kept(came, size), s))
			})
		}
	})
}

// 7.2: what came and is not kept any more is not told, and what stands further ahead is no end.
func TestGone(t *testing.T) {
	r := written(t, 2, "abc")
	checkEnds(t, r, "abc", false)
	checkEnds(t, r, "ab", false)
	checkEnds(t, r, "cbc", false)
	checkEnds(t, r, "bc", true)
	checkEnds(t, r, "", true)
	checkAt(t, r, 2, 0, false)
	checkAt(t, r, -1, 0, false)
	checkTail(t, r, 3, "bc")
	r.Write("")
	checkRing(t, r, "bc", 3)
	r.Push(0)
	checkRing(t, r, "c\x00", 4)
}

// 7.1, 7.2: a nil ring keeps nothing, and nothing comes to it.
func TestNil(t *testing.T) {
	var r *ring.Ring
	checkRing(t, r, "", 0)
	r.Push('a')
	r.Write("")
	r.Write("abc")
	checkRing(t, r, "", 0)
	checkEnds(t, r, "c", false)
	checkEnds(t, r, "", true)
	checkTail(t, r, 1, "")
	checkAt(t, r, 0, 0, false)
}

// 7.3: what is kept hangs on what came, not on how it came: in all ways to part short streams, byte by byte or as a text.
func TestParts(t *testing.T) {
	s := "abcabdab"
	for size := 1; size < 10; size++ {
		for cuts := range 1 << (len(s) - 1) {
			r, bytewise := ringOf(t, size), ringOf(t, size)
			from := 0
			for to := 1; to <= len(s); to++ {
				if to < len(s) && cuts>>(to-1)&1 == 0 {
					continue
				}
				r.Write(s[from:to])
				if to-from == 1 {
					bytewise.Push(s[from])
				} else {
					bytewise.Write(s[from:to])
				}
				checkTail(t, r, size, kept(s[:to], size))
				from = to
			}
			checkRing(t, r, kept(s, size), len(s))
			checkRing(t, bytewise, kept(s, size), len(s))
		}
	}
}

// 7.3: a greater ring tells the same of all that a lesser one keeps.
func TestGreater(t *testing.T) {
	texts("ab", 7, func(s string) {
		for size := 1; size < 8; size++ {
			lesser, greater := written(t, size, s), written(t, size+1, s)
			for n := range lesser.Len() + 1 {
				checkTail(t, greater, n, lesser.Tail(n))
				checkEnds(t, greater, lesser.Tail(n), true)
			}
			for d := range lesser.Len() {
				c, _ := lesser.At(d)
				checkAt(t, greater, d, c, true)
			}
			if lesser.Seen() != greater.Seen() || lesser.Len() > greater.Len() {
				t.Errorf("of %q rings of %d and %d keep %d and %d, of %d and %d", s, size, size+1, lesser.Len(), greater.Len(), lesser.Seen(), greater.Seen())
			}
		}
	})
}

// 7.1 to 7.3: the greatest ring, at the place where it gets full, and those near it.
func TestMost(t *testing.T) {
	s := strings.Repeat(all()+"x", 300)
	for _, size := range []int{ring.Most - 1, ring.Most} {
		for _, n := range []int{size - 1, size, size + 1, size + 255, len(s)} {
			r := written(t, size, s[:n])
			want := kept(s[:n], size)
			checkCounts(t, r, len(want), n)
			checkTail(t, r, ring.Most+1, want)
			checkTail(t, r, len(want)-1, want[1:])
			checkEnds(t, r, want, true)
			checkEnds(t, r, want[1:], true)
			checkEnds(t, r, "y"+want[1:], false)
			checkEnds(t, r, want[:len(want)-1]+"\x01\x02", false)
			checkEnds(t, r, s[:n], n <= size)
			checkAt(t, r, 0, want[len(want)-1], true)
			checkAt(t, r, len(want)-1, want[0], true)
			checkAt(t, r, len(want), 0, false)
		}
	}
}

// 7.1: a ring that is full keeps no more, the longer the stream is.
func TestLong(t *testing.T) {
	s := strings.Repeat(all(), 1<<12)
	for _, size := range []int{1, 3, 256, ring.Most} {
		r := written(t, size, s)
		if n := testing.AllocsPerRun(2, func() { r.Write(s) }); n != 0 {
			t.Errorf("a full ring of %d took new memory %v times", size, n)
		}
		// It was written to once to fill it, once ahead of what was measured, and twice there.
		checkCounts(t, r, size, 4*len(s))
		checkTail(t, r, size, s[len(s)-size:])
	}
}

// 7.1, R4: two rings have nothing to do with one another, and what is asked changes nothing.
func TestApart(t *testing.T) {
	a, b := written(t, 3, "abc"), written(t, 3, "abc")
	tail := a.Tail(3)
	for range 3 {
		checkRing(t, a, "abc", 3)
	}
	a.Write("de")
	checkRing(t, a, "cde", 5)
	checkRing(t, b, "abc", 3)
	if tail != "abc" {
		t.Errorf("what was told is now %q", tail)
	}
}

// R5: the same again, with and without error.
func TestAgain(t *testing.T) {
	for range 3 {
		if r, e := ring.New(0); r != nil || e != api.ErrArg {
			t.Errorf("New(0): %v, %v; want nil, %v", r, e, api.ErrArg)
		}
		checkRing(t, written(t, 2, "abc"), "bc", 3)
	}
}
