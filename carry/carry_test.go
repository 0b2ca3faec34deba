package carry_test

import (
	"math"
	"runtime"
	"slices"
	"testing"
	"unsafe"
	"weak"

	"jurat/api"
	"jurat/carry"
)

// model is a carry by the chapter's words: all that came, and how far one is done.
type model struct {
	keep int
	came string
	done int
}

// keeps is whether the end e's byte is there, and is kept.
func (m model) keeps(e int) bool {
	return e >= 1 && e <= len(m.came) && (e > m.done || e > m.done-m.keep)
}

// held is how many bytes are kept, counted one by one.
func (m model) held() int {
	n := 0
	for e := 1; e <= len(m.came); e++ {
		if m.keeps(e) {
			n++
		}
	}
	return n
}

// tail is the last keep bytes up to the end e, if they are told.
func (m model) tail(e int) (string, bool) {
	if e < 0 || e < m.done || e > len(m.came) {
		return "", false
	}
	s := m.came[:e]
	for len(s) > m.keep {
		s = s[1:]
	}
	return s, true
}

// step is what is done to a carry: bytes come, or ends are passed.
type step struct {
	pass bool
	end  int
	add  string
}

// all is all bytes, from the least one on.
func all() string {
	var b []byte
	for c := range 256 {
		b = append(b, byte(c))
	}
	return string(b)
}

// mixed is a text in which all bytes stand mixed.
func mixed(size int) string {
	b, n := make([]byte, size), uint32(size)
	for i := range b {
		n = n*1664525 + 1013904223
		b[i] = byte(n >> 16)
	}
	return string(b)
}

// partings calls f with each way to part a text into parts that are not empty.
func partings(s string, f func([]string)) {
	for cuts := range 1 << max(len(s)-1, 0) {
		var l []string
		from := 0
		for to := 1; to <= len(s); to++ {
			if to == len(s) || cuts>>(to-1)&1 == 1 {
				l = append(l, s[from:to])
				from = to
			}
		}
		f(l)
	}
}

// carryOf is a carry of a number that there is.
func carryOf(t *testing.T, keep int) *carry.Carry {
	t.Helper()
	k, e := carry.New(keep)
	if k == nil || e != api.OK {
		t.Fatalf("New(%d): %v, %v; want a carry", keep, k, e)
	}
	return k
}

// far is ends that are far from all that came, and such as are one of them in fewer bits.
func far() []int {
	return []int{math.MinInt, math.MinInt + 1, math.MinInt + 2, -1 << 62, -1 << 32, 1 - 1<<32, 2 - 1<<32, -carry.Most - 1, -carry.Most, -3, -2, -1, carry.Most << 6, 1 << 32, 1<<32 + 1, 1<<32 + 2, 1 << 62, 1<<62 + 1, math.MaxInt - 1, math.MaxInt}
}

// checkCounts asks how many bytes came, how far one is done, and how many bytes are kept.
func checkCounts(t *testing.T, k *carry.Carry, seen, done, held int) {
	t.Helper()
	if n := k.Seen(); n != seen {
		t.Errorf("Seen: %d; want %d", n, seen)
	}
	if n := k.Done(); n != done {
		t.Errorf("Done: %d; want %d", n, done)
	}
	if n := k.Held(); n != held {
		t.Errorf("Held: %d; want %d", n, held)
	}
}

func checkByte(t *testing.T, k *carry.Carry, e int, c byte, ok bool) {
	t.Helper()
	if b, o := k.Byte(e); b != c || o != ok {
		t.Errorf("Byte(%d): %d, %v; want %d, %v", e, b, o, c, ok)
	}
}

func checkTail(t *testing.T, k *carry.Carry, e int, want string, ok bool) {
	t.Helper()
	if s, o := k.Tail(e); s != want || o != ok {
		t.Errorf("Tail(%d): %d bytes %.40q, %v; want %d bytes %.40q, %v", e, len(s), s, o, len(want), want, ok)
	}
}

func checkPass(t *testing.T, k *carry.Carry, e int, want api.Errno) {
	t.Helper()
	if got := k.Pass(e); got != want {
		t.Errorf("Pass(%d): %v; want %v", e, got, want)
	}
}

// checkEnd asks what is told of one end.
func checkEnd(t *testing.T, k *carry.Carry, m model, e int) {
	t.Helper()
	c := byte(0)
	if m.keeps(e) {
		c = m.came[e-1]
	}
	checkByte(t, k, e, c, m.keeps(e))
	want, ok := m.tail(e)
	checkTail(t, k, e, want, ok)
}

// checkCarry asks all that 25.2 tells, of all ends of the stream, and of some that are none.
func checkCarry(t *testing.T, k *carry.Carry, m model) {
	t.Helper()
	checkCounts(t, k, len(m.came), m.done, m.held())
	for e := -2; e <= len(m.came)+2; e++ {
		checkEnd(t, k, m, e)
	}
	for _, e := range far() {
		checkEnd(t, k, m, e)
	}
}

// take does a step, and asks of an end that is passed what the chapter says.
func take(t *testing.T, k *carry.Carry, m model, s step) model {
	t.Helper()
	if !s.pass {
		k.Add(s.add)
		m.came += s.add
		return m
	}
	if s.end < m.done || s.end > len(m.came) {
		checkPass(t, k, s.end, api.ErrRange)
		return m
	}
	checkPass(t, k, s.end, api.OK)
	m.done = s.end
	return m
}

// 25.1: numbers that there are, and numbers that there are not.
func TestNew(t *testing.T) {
	if carry.Most != 65536 {
		t.Errorf("Most: %d; want 65536", carry.Most)
	}
	for _, keep := range []int{1, 2, 3, 255, 256, 4096, api.MaxPattern, carry.Most - 1, carry.Most} {
		checkCarry(t, carryOf(t, keep), model{keep: keep})
	}
	for _, keep := range []int{0, -1, -2, -carry.Most, carry.Most + 1, 2 * carry.Most, 1 << 32, 1<<32 + 1, 1 - 1<<32, math.MaxInt, math.MaxInt - 1, math.MinInt, math.MinInt + 1} {
		if k, e := carry.New(keep); k != nil || e != api.ErrArg {
			t.Errorf("New(%d): %v, %v; want nil, %v", keep, k, e, api.ErrArg)
		}
	}
}

// 25.1, 25.2: the chapter's example.
func TestExample(t *testing.T) {
	k := carryOf(t, 2)
	k.Add("abcde")
	checkCounts(t, k, 5, 0, 5)
	checkPass(t, k, 4, api.OK)
	checkCounts(t, k, 5, 4, 3)
	checkTail(t, k, 4, "cd", true)
	checkTail(t, k, 5, "de", true)
	checkTail(t, k, 3, "", false)
	checkByte(t, k, 3, 'c', true)
	checkByte(t, k, 2, 0, false)
	checkCarry(t, k, model{2, "abcde", 4})
}

// 25.1, 25.2: all short ways in which bytes come and ends are passed, by all small numbers.
func TestShort(t *testing.T) {
	steps := []step{{add: ""}, {add: "\x01"}, {add: "\x02\x03"}, {add: "\x00\xff\x04\x05\x06"}}
	for e := -1; e < 9; e++ {
		steps = append(steps, step{pass: true, end: e})
	}
	for keep := 1; keep < 6; keep++ {
		var go4 func(done []step)
		go4 = func(done []step) {
			k, m := carryOf(t, keep), model{keep: keep}
			for _, s := range done {
				m = take(t, k, m, s)
			}
			checkCarry(t, k, m)
			if len(done) == 4 {
				return
			}
			for _, s := range steps {
				go4(append(slices.Clip(done), s))
			}
		}
		go4(nil)
	}
}

// 25.1, 25.2: all ends of a stream, each passed from each ahead of it, in one way from end to end, by all small numbers.
func TestPass(t *testing.T) {
	s := "abcdefghij"
	for keep := 1; keep < 13; keep++ {
		for ends := range 1 << (len(s) + 1) {
			k, m := carryOf(t, keep), model{keep: keep}
			m = take(t, k, m, step{add: s})
			for e := range len(s) + 1 {
				if ends>>e&1 == 1 {
					m = take(t, k, m, step{pass: true, end: e})
				}
			}
			checkCounts(t, k, len(s), m.done, m.held())
			for e := range len(s) + 2 {
				checkEnd(t, k, m, e)
			}
		}
	}
}

// 25.1, R3: ends that can't be passed, and that nothing is another one for that.
func TestRefused(t *testing.T) {
	k, m := carryOf(t, 2), model{keep: 2}
	checkPass(t, k, 0, api.OK)
	checkPass(t, k, 1, api.ErrRange)
	checkPass(t, k, -1, api.ErrRange)
	for _, s := range []step{{add: "abcdef"}, {pass: true, end: 4}, {pass: true, end: 4}, {add: "g"}, {pass: true, end: 7}, {add: "hi"}} {
		m = take(t, k, m, s)
		for _, e := range append(far(), m.done-1, len(m.came)+1) {
			checkPass(t, k, e, api.ErrRange)
			checkCarry(t, k, m)
		}
	}
	checkPass(t, k, 9, api.OK)
	checkPass(t, k, 9, api.OK)
	checkPass(t, k, 8, api.ErrRange)
	checkPass(t, k, 0, api.ErrRange)
	checkCarry(t, k, model{2, "abcdefghi", 9})
}

// 25.2: each byte at each of few places.
func TestBytes(t *testing.T) {
	s := all() + all()
	for keep := 1; keep < 4; keep++ {
		k, m := carryOf(t, keep), model{keep: keep}
		for i := range len(s) {
			m = take(t, k, m, step{add: s[i : i+1]})
			for e := i - keep - 1; e < i+3; e++ {
				checkEnd(t, k, m, e)
			}
			m = take(t, k, m, step{pass: true, end: i + 1})
			for e := i - keep - 1; e < i+3; e++ {
				checkEnd(t, k, m, e)
			}
			checkCounts(t, k, i+1, i+1, min(keep, i+1))
		}
	}
}

// 25.1, 25.2: a nil carry has nothing, and nothing comes to it.
func TestNil(t *testing.T) {
	var k *carry.Carry
	for range 2 {
		checkCounts(t, k, 0, 0, 0)
		for _, e := range append(far(), 0, 1, 2, 3) {
			checkByte(t, k, e, 0, false)
			checkTail(t, k, e, "", false)
			checkPass(t, k, e, api.ErrNil)
		}
		k.Add("")
		k.Add("abc")
	}
}

// 25.3: what is told hangs on the stream and on how far one is done, not on its parts, nor on the ends that were passed on the way there.
func TestParts(t *testing.T) {
	s := "abcabdab"
	for keep := 1; keep < 10; keep++ {
		partings(s, func(l []string) {
			for lag := range len(s) + 1 {
				k, m := carryOf(t, keep), model{keep: keep}
				for _, part := range append([]string{""}, l...) {
					m = take(t, k, m, step{add: part})
					m = take(t, k, m, step{pass: true, end: max(len(m.came)-lag, 0)})
					k.Add("")
					checkCounts(t, k, len(m.came), m.done, min(len(m.came), lag+keep))
				}
				for e := range len(s) + 2 {
					checkEnd(t, k, m, e)
				}
			}
		})
	}
}

// 25.1 to 25.3: long streams in parts of many lengths, passed by steps of many lengths, with few and with many bytes kept.
func TestLong(t *testing.T) {
	s := mixed(3*carry.Most + 99)
	for _, keep := range []int{1, 2, 3, 255, 256, 4097, api.MaxPattern, carry.Most} {
		for _, size := range []int{999, 4096, 65535, 65536, len(s)} {
			for _, by := range []int{509, 4096, 65536, len(s)} {
				checkLong(t, s, keep, size, by)
			}
		}
	}
}

// checkLong lets a stream come in parts of one size, and passes what came by steps; near the ends that are passed, all is asked.
func checkLong(t *testing.T, s string, keep, size, by int) {
	t.Helper()
	k := carryOf(t, keep)
	done := 0
	for from := 0; from < len(s); from += size {
		part := s[from:min(from+size, len(s))]
		k.Add(part)
		seen := from + len(part)
		for done < seen {
			done = min(done+by, seen)
			checkPass(t, k, done, api.OK)
			first := max(done-keep, 0)
			checkCounts(t, k, seen, done, seen-first)
			checkByte(t, k, first, 0, false)
			checkByte(t, k, first+1, s[first], true)
			checkByte(t, k, done, s[done-1], true)
			checkByte(t, k, seen, s[seen-1], true)
			checkByte(t, k, seen+1, 0, false)
			checkTail(t, k, done-1, "", false)
			checkTail(t, k, done, s[first:done], true)
			checkTail(t, k, seen, s[max(seen-keep, 0):seen], true)
			checkTail(t, k, seen+1, "", false)
		}
	}
}

// 25.1, 25.2: where the last byte that is kept gets one that is not, by the greatest numbers.
func TestMost(t *testing.T) {
	s := mixed(2*carry.Most + 9)
	for _, keep := range []int{carry.Most - 1, carry.Most} {
		for _, done := range []int{0, 1, keep - 1, keep, keep + 1, 2 * keep, 2*keep + 1, len(s)} {
			k := carryOf(t, keep)
			k.Add(s)
			checkPass(t, k, done, api.OK)
			first := max(done-keep, 0)
			checkCounts(t, k, len(s), done, len(s)-first)
			for e := max(first-2, 0); e < first+3; e++ {
				if e > first {
					checkByte(t, k, e, s[e-1], true)
				} else {
					checkByte(t, k, e, 0, false)
				}
			}
			for _, e := range []int{done, keep - 1, keep, keep + 1, len(s)} {
				if e >= done {
					checkTail(t, k, e, s[max(e-keep, 0):e], true)
				}
			}
			if s, ok := k.Tail(len(s)); len(s) != keep || !ok {
				t.Errorf("keep %d: %d bytes up to the last end, %v", keep, len(s), ok)
			}
		}
	}
}

// inUse is how much memory is in use.
func inUse() int {
	var m runtime.MemStats
	for range 3 {
		runtime.GC()
	}
	runtime.ReadMemStats(&m)
	return int(m.HeapAlloc)
}

// taken is how much memory f takes in all, whatever it gives up again.
func taken(f func()) int {
	var a, b runtime.MemStats
	runtime.ReadMemStats(&a)
	f()
	runtime.ReadMemStats(&b)
	return int(b.TotalAlloc - a.TotalAlloc)
}

// 25.3, T7: what is not needed any more is given up: who is done with all keeps no more memory, the longer the stream is, nor the longer its parts were.
func TestGivenUp(t *testing.T) {
	part := mixed(1 << 22)
	for _, keep := range []int{1, 2, 999, carry.Most} {
		k := carryOf(t, keep)
		k.Add("x")
		checkPass(t, k, 1, api.OK)
		ahead := inUse()
		for range 8 {
			k.Add(part)
			checkPass(t, k, k.Seen(), api.OK)
			checkCounts(t, k, k.Seen(), k.Seen(), keep)
			if more := inUse() - ahead; more > 4*keep+1<<18 {
				t.Errorf("keep %d: of %d bytes, all done with, %d bytes more are in use", keep, k.Seen(), more)
			}
		}
		k.Add(part)
		for range 7 {
			checkPass(t, k, k.Seen()-(k.Seen()-k.Done())/4, api.OK)
		}
		if more := inUse() - ahead; more > 4*keep+1<<18 {
			t.Errorf("keep %d: of %d bytes, few of them not done with, %d bytes more are in use", keep, k.Seen(), more)
		}
		runtime.KeepAlive(k)
	}
	runtime.KeepAlive(part)
}

// 25.1: a long part is passed end by end, and a long stream comes byte by byte, without all that is kept being copied each time.
func TestEndByEnd(t *testing.T) {
	s := mixed(1 << 20)
	for _, keep := range []int{1, 2, 999, carry.Most} {
		k := carryOf(t, keep)
		if n := taken(func() {
			k.Add(s)
			for e := range len(s) {
				if k.Pass(e+1) != api.OK {
					t.Fatalf("keep %d: Pass(%d) is refused", keep, e+1)
				}
			}
		}); n > 99*len(s) {
			t.Errorf("keep %d: passing %d ends of one part took %d bytes of memory", keep, len(s), n)
		}
		checkTail(t, k, len(s), s[len(s)-keep:], true)
		if n := taken(func() {
			for i := range len(s) {
				k.Add(s[i : i+1])
				if k.Pass(k.Seen()) != api.OK {
					t.Fatalf("keep %d: Pass(%d) is refused", keep, k.Seen())
				}
			}
		}); n > 99*len(s) {
			t.Errorf("keep %d: %d bytes, one by one, took %d bytes of memory", keep, len(s), n)
		}
		checkTail(t, k, 2*len(s), s[len(s)-keep:], true)
		checkCounts(t, k, 2*len(s), 2*len(s), keep)
	}
}

// R4: bytes that are handed in are not kept themselves, whether or not any were given up.
func TestHandedIn(t *testing.T) {
	for _, done := range []int{0, 3, 999} {
		k := carryOf(t, 3)
		b := []byte(mixed(999))
		want := string(b[996:])
		whole := weak.Make(&b[0])
		k.Add(unsafe.String(&b[0], len(b)))
		b = nil
		checkPass(t, k, done, api.OK)
		for range 3 {
			runtime.GC()
		}
		if whole.Value() != nil {
			t.Errorf("done with %d: the bytes that were handed in are kept", done)
		}
		checkTail(t, k, 999, want, true)
	}
}

// R4, R5: carries know nothing of each other, what was told stays as it was, and what is asked changes nothing.
func TestApart(t *testing.T) {
	a, b := carryOf(t, 3), carryOf(t, 3)
	a.Add("abcdef")
	b.Add("abcdef")
	checkPass(t, b, 1, api.OK)
	first, _ := a.Tail(3)
	last, _ := a.Tail(6)
	for range 3 {
		checkCarry(t, a, model{3, "abcdef", 0})
	}
	checkPass(t, a, 6, api.OK)
	a.Add("ghijklmnopqrstuvwxyz")
	checkPass(t, a, 26, api.OK)
	a.Add("!")
	checkCarry(t, a, model{3, "abcdefghijklmnopqrstuvwxyz!", 26})
	checkCarry(t, b, model{3, "abcdef", 1})
	if first != "abc" || last != "def" {
		t.Errorf("what was told is now %q, %q", first, last)
	}
}

// R5: the same again, with and without error.
func TestAgain(t *testing.T) {
	for range 3 {
		if k, e := carry.New(0); k != nil || e != api.ErrArg {
			t.Errorf("New(0): %v, %v; want nil, %v", k, e, api.ErrArg)
		}
		k, m := carryOf(t, 2), model{keep: 2}
		for _, s := range []step{{add: "abc"}, {pass: true, end: 4}, {pass: true, end: 3}, {add: "de"}, {pass: true, end: 2}, {pass: true, end: 4}} {
			m = take(t, k, m, s)
		}
		checkCarry(t, k, model{2, "abcde", 4})
	}
}
