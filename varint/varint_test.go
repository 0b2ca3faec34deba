package varint_test

import (
	"math"
	"math/big"
	"slices"
	"strings"
	"testing"

	"jurat/api"
	"jurat/varint"
)

// numbers are those near which a number has one byte more, and all small ones.
func numbers() []int {
	l := []int{math.MaxInt - 1, math.MaxInt, api.MaxStream, api.MaxStream + 1}
	for n := range 1 << 15 {
		l = append(l, n)
	}
	for bit := 1; bit < 63; bit++ {
		for _, d := range []int{-2, -1, 0, 1, 127, 128} {
			l = append(l, max(0, 1<<bit+d))
		}
	}
	return l
}

// below are numbers that have no bytes.
func below() []int {
	l := []int{math.MinInt, math.MinInt + 1, -1, -2}
	for bit := range 63 {
		l = append(l, -1<<bit, -1<<bit-1)
	}
	return l
}

// digits is a number's bytes, by the library's numbers: each power of 128 tells one digit.
func digits(n int) string {
	var l []byte
	base := big.NewInt(128)
	rest := big.NewInt(int64(n))
	for {
		digit := new(big.Int)
		rest.DivMod(rest, base, digit)
		if rest.Sign() == 0 {
			return string(append(l, byte(digit.Int64())))
		}
		l = append(l, byte(digit.Int64()+128))
	}
}

// texts calls f with each text of at most so many bytes out of an alphabet.
func texts(alphabet string, most int, f func(string)) {
	var grow func(string)
	grow = func(s string) {
		f(s)
		if len(s) == most {
			return
		}
		for i := range len(alphabet) {
			grow(s + alphabet[i:i+1])
		}
	}
	grow("")
}

// expected is what Take is to answer, as the chapter words it.
func expected(s string) (int, int, api.Errno) {
	last := slices.IndexFunc([]byte(s), func(c byte) bool { return c < 128 })
	if last < 0 && len(s) < 9 {
		return 0, 0, api.ErrShort
	}
	if last < 0 || last >= 9 {
		return 0, 0, api.ErrLong
	}
	if s[last] == 0 && last > 0 {
		return 0, 0, api.ErrForm
	}
	n := new(big.Int)
	for i := last; i >= 0; i-- {
		n.Mul(n, big.NewInt(128))
		n.Add(n, big.NewInt(int64(s[i])%128))
	}
	return int(n.Int64()), last + 1, api.OK
}

func checkTake(t *testing.T, s string) {
	t.Helper()
	n, size, e := varint.Take(s)
	if wn, ws, we := expected(s); n != wn || size != ws || e != we {
		t.Errorf("Take(%.40x): %d, %d, %v; want %d, %d, %v", s, n, size, e, wn, ws, we)
	}
}

// 2.1: a number's bytes, by examples.
func TestPut(t *testing.T) {
	for _, x := range []struct {
		n int
		s string
	}{
		{0, "\x00"},
		{1, "\x01"},
		{127, "\x7f"},
		{128, "\x80\x01"},
		{129, "\x81\x01"},
		{255, "\xff\x01"},
		{256, "\x80\x02"},
		{300, "\xac\x02"},
		{16383, "\xff\x7f"},
		{16384, "\x80\x80\x01"},
		{1 << 56, "\x80\x80\x80\x80\x80\x80\x80\x80\x01"},
		{1<<56 - 1, "\xff\xff\xff\xff\xff\xff\xff\x7f"},
		{api.MaxStream, "\xff\xff\xff\xff\xff\xff\xff\xff\x3f"},
		{math.MaxInt, "\xff\xff\xff\xff\xff\xff\xff\xff\x7f"},
		{-1, ""},
		{-128, ""},
		{math.MinInt, ""},
	} {
		if s := varint.Put(x.n); s != x.s {
			t.Errorf("Put(%d): %x, want %x", x.n, s, x.s)
		}
		if size := varint.Size(x.n); size != len(x.s) {
			t.Errorf("Size(%d): %d, want %d", x.n, size, len(x.s))
		}
	}
}

// 2.1: a number's bytes and how many they are, wherever one byte more is needed.
func TestPutNumbers(t *testing.T) {
	for _, n := range numbers() {
		want := digits(n)
		if s := varint.Put(n); s != want {
			t.Errorf("Put(%d): %x, want %x", n, s, want)
		}
		if size := varint.Size(n); size != len(want) {
			t.Errorf("Size(%d): %d, want %d", n, size, len(want))
		}
		if s := varint.All(n); s != want {
			t.Errorf("All(%d): %x, want %x", n, s, want)
		}
	}
}

// 2.1: numbers below 0 have no bytes.
func TestPutBelow(t *testing.T) {
	for _, n := range below() {
		if s, size, all := varint.Put(n), varint.Size(n), varint.All(n, n); s != "" || size != 0 || all != "" {
			t.Errorf("%d: %x, %d, %x", n, s, size, all)
		}
	}
}

// 2.1: the bytes of several, one behind the other.
func TestAll(t *testing.T) {
	for _, x := range []struct {
		l []int
		s string
	}{
		{nil, ""},
		{[]int{}, ""},
		{[]int{0}, "\x00"},
		{[]int{0, 0}, "\x00\x00"},
		{[]int{300, 0, 5}, "\xac\x02\x00\x05"},
		{[]int{5, 300}, "\x05\xac\x02"},
		{[]int{-1}, ""},
		{[]int{-1, 7, -300, 128, math.MinInt}, "\x07\x80\x01"},
	} {
		if s := varint.All(x.l...); s != x.s {
			t.Errorf("All(%v): %x, want %x", x.l, s, x.s)
		}
	}
	if s := varint.All(); s != "" {
		t.Errorf("All(): %x", s)
	}
}

// 2.1: many numbers, those below 0 among them.
func TestAllMany(t *testing.T) {
	l := slices.Concat(numbers(), below(), numbers())
	var want strings.Builder
	for _, n := range l {
		if n >= 0 {
			want.WriteString(digits(n))
		}
	}
	if s := varint.All(l...); s != want.String() {
		t.Errorf("%d numbers: %d bytes, want %d", len(l), len(s), want.Len())
	}
}

// 2.2: the examples of the chapter, and the edges it names.
func TestTake(t *testing.T) {
	high := func(n int) string { return strings.Repeat("\x80", n) }
	full := func(n int) string { return strings.Repeat("\xff", n) }
	for _, x := range []struct {
		s       string
		n, size int
		e       api.Errno
	}{
		{"", 0, 0, api.ErrShort},
		{"\x80", 0, 0, api.ErrShort},
		{"\xff", 0, 0, api.ErrShort},
		{high(8), 0, 0, api.ErrShort},
		{full(8), 0, 0, api.ErrShort},
		{high(9), 0, 0, api.ErrLong},
		{full(9), 0, 0, api.ErrLong},
		{high(9) + "\x00", 0, 0, api.ErrLong},
		{high(9) + "\x01", 0, 0, api.ErrLong},
		{full(9) + "\x7f", 0, 0, api.ErrLong},
		{high(10), 0, 0, api.ErrLong},
		{high(100000), 0, 0, api.ErrLong},
		{"\x00", 0, 1, api.OK},
		{"\x00\x00", 0, 1, api.OK},
		{"\x00" + full(20), 0, 1, api.OK},
		{"\x80\x00", 0, 0, api.ErrForm},
		{"\xff\x00", 0, 0, api.ErrForm},
		{"\x80\x00\x01", 0, 0, api.ErrForm},
		{"\x80\x80\x00", 0, 0, api.ErrForm},
		{high(7) + "\x00", 0, 0, api.ErrForm},
		{high(8) + "\x00", 0, 0, api.ErrForm},
		{full(8) + "\x00" + full(9), 0, 0, api.ErrForm},
		{"\x7f", 127, 1, api.OK},
		{"\x01\x80", 1, 1, api.OK},
		{"\x80\x01", 128, 2, api.OK},
		{"\xac\x02", 300, 2, api.OK},
		{"\xac\x02\x00", 300, 2, api.OK},
		{"\xac\x02\xac\x02", 300, 2, api.OK},
		{full(7) + "\x7f", 1<<56 - 1, 8, api.OK},
		{high(8) + "\x01", 1 << 56, 9, api.OK},
		{full(8) + "\x3f", api.MaxStream, 9, api.OK},
		{high(8) + "\x40", api.MaxStream + 1, 9, api.OK},
		{full(8) + "\x7f", math.MaxInt, 9, api.OK},
		{full(8) + "\x7f" + full(9), math.MaxInt, 9, api.OK},
	} {
		if n, size, e := varint.Take(x.s); n != x.n || size != x.size || e != x.e {
			t.Errorf("Take(%.40x): %d, %d, %v; want %d, %d, %v", x.s, n, size, e, x.n, x.size, x.e)
		}
	}
}

// 2.2: each two bytes, by themselves and behind others.
func TestTakeBytes(t *testing.T) {
	for c := range 256 {
		for d := range 256 {
			s := string([]byte{byte(c), byte(d)})
			checkTake(t, s)
			checkTake(t, "\x80\xff"+s)
			checkTake(t, strings.Repeat("\xfe", 6)+s)
			checkTake(t, strings.Repeat("\x80", 7)+s)
			checkTake(t, strings.Repeat("\xff", 8)+s)
		}
	}
}

// 2.2: all texts out of a few bytes that are as long as a number can be, and longer.
func TestTakeShortTexts(t *testing.T) {
	texts("\x00\x01\x80", 11, func(s string) { checkTake(t, s) })
	texts("\x00\x01\x7f\x80\x81\xff", 6, func(s string) { checkTake(t, s) })
}

// 2.2: each byte of a longest number tells in its own place.
func TestTakePlaces(t *testing.T) {
	for place := range 9 {
		for digit := 1; digit < 128; digit++ {
			b := []byte(strings.Repeat("\x80", 8) + "\x01")
			b[place] = b[place]&128 | byte(digit)
			checkTake(t, string(b))
		}
	}
}

// 2.3: what was put is taken as it was, whatever stands behind it.
func TestThereAndBack(t *testing.T) {
	met := map[string]int{}
	for _, n := range numbers() {
		s := varint.Put(n)
		for _, behind := range []string{"", "\x00", "\x01", "\x7f", "\x80", "\xff", s, strings.Repeat("\x80", 12)} {
			if back, size, e := varint.Take(s + behind); back != n || size != len(s) || e != api.OK {
				t.Errorf("Take(%x %x): %d, %d, %v; want %d", s, behind, back, size, e, n)
			}
		}
		for cut := range len(s) {
			if back, size, e := varint.Take(s[:cut]); back != 0 || size != 0 || e != api.ErrShort {
				t.Errorf("Take(%x): %d, %d, %v", s[:cut], back, size, e)
			}
		}
		if other, ok := met[s]; ok && other != n {
			t.Errorf("%d and %d are both %x", n, other, s)
		}
		met[s] = n
	}
}

// 2.3: several are taken one behind the other.
func TestSeveralThereAndBack(t *testing.T) {
	l := numbers()
	rest := varint.All(l...)
	for _, n := range l {
		back, size, e := varint.Take(rest)
		if back != n || size != varint.Size(n) || e != api.OK {
			t.Fatalf("%d: %d, %d, %v", n, back, size, e)
		}
		rest = rest[size:]
	}
	if rest != "" {
		t.Errorf("%d bytes are left", len(rest))
	}
}

// 2.3: no other bytes lead to a number than those that are put of it.
func TestNoOtherBytes(t *testing.T) {
	check := func(s string) {
		if n, size, e := varint.Take(s); e == api.OK && varint.Put(n) != s[:size] {
			t.Errorf("%x is taken as %d", s, n)
		}
	}
	texts("\x00\x01\x80\xff", 9, check)
	for c := range 1 << 16 {
		check(string([]byte{byte(c), byte(c >> 8)}))
	}
}

// R4: what is handed in stays, and nothing behind a list's length is read.
func TestMemory(t *testing.T) {
	room := []int{1, 300, 3, 4}
	if s := varint.All(room[:2]...); s != "\x01\xac\x02" || !slices.Equal(room, []int{1, 300, 3, 4}) {
		t.Errorf("%x, %v", s, room)
	}
	if s := varint.All(room[:0]...); s != "" {
		t.Errorf("%x", s)
	}
}
