package digit_test

import (
	"math"
	"math/big"
	"slices"
	"strconv"
	"strings"
	"testing"

	"jurat/api"
	"jurat/digit"
)

// numbers are those near which a text grows longer, or an int goes round, and all small ones.
func numbers() []int {
	l := []int{math.MinInt, math.MinInt + 1, math.MaxInt - 1, math.MaxInt}
	for n := -1200; n <= 1200; n++ {
		l = append(l, n)
	}
	for p := 1; p <= math.MaxInt/10; p *= 10 {
		for d := -1; d <= 1; d++ {
			l = append(l, p*10+d, -p*10+d, p*9+d, -p*9+d)
		}
	}
	for bit := range 63 {
		for d := -1; d <= 1; d++ {
			l = append(l, 1<<bit+d, -1<<bit+d)
		}
	}
	return l
}

// texts calls f with each text of at most so many bytes out of an alphabet.
func texts(alphabet string, most int, f func(string)) {
	var grow func(string)
	grow = func(s string) {
		f(s)
		if len(s) == most {
			return
		}
		for i := range len(alphabet) {
			grow(s + alphabet[i:i+1])
		}
	}
	grow("")
}

// expected is what Parse is to answer, by the library's numbers, which know no greatest one.
func expected(s string, least, most int) (int, api.Errno) {
	n, ok := new(big.Int).SetString(s, 10)
	if !ok || n.String() != s {
		return 0, api.ErrForm
	}
	if !n.IsInt64() || n.Int64() < int64(least) || n.Int64() > int64(most) {
		return 0, api.ErrRange
	}
	return int(n.Int64()), api.OK
}

func checkParse(t *testing.T, s string, least, most int) {
	t.Helper()
	n, e := digit.Parse(s, least, most)
	if wn, we := expected(s, least, most); n != wn || e != we {
		t.Errorf("Parse(%.60q, %d, %d): %d, %v; want %d, %v", s, least, most, n, e, wn, we)
	}
}

// 1.1: a number's text.
func TestText(t *testing.T) {
	for _, n := range numbers() {
		if got := digit.Text(n); got != strconv.Itoa(n) {
			t.Errorf("Text(%d): %q", n, got)
		}
	}
}

// 1.1: the examples of the chapter, and the edges it names.
func TestParse(t *testing.T) {
	for _, x := range []struct {
		s           string
		least, most int
		n           int
		e           api.Errno
	}{
		{"-5", -9, 9, -5, api.OK},
		{"-0", 0, 9, 0, api.ErrForm},
		{"007", 0, 9, 0, api.ErrForm},
		{"10", 0, 9, 0, api.ErrRange},
		{"0", 0, 0, 0, api.OK},
		{"0", 1, 9, 0, api.ErrRange},
		{"9", 0, 9, 9, api.OK},
		{"-9", -9, 9, -9, api.OK},
		{"-10", -9, 9, 0, api.ErrRange},
		{"5", 9, -9, 0, api.ErrRange},
		{"0", 1, -1, 0, api.ErrRange},
		{"9223372036854775807", math.MinInt, math.MaxInt, math.MaxInt, api.OK},
		{"-9223372036854775808", math.MinInt, math.MaxInt, math.MinInt, api.OK},
		{"9223372036854775808", math.MinInt, math.MaxInt, 0, api.ErrRange},
		{"-9223372036854775809", math.MinInt, math.MaxInt, 0, api.ErrRange},
		{"18446744073709551616", math.MinInt, math.MaxInt, 0, api.ErrRange},
		{"18446744073709551621", math.MinInt, math.MaxInt, 0, api.ErrRange},
		{"-18446744073709551611", math.MinInt, math.MaxInt, 0, api.ErrRange},
		{"92233720368547758070", math.MinInt, math.MaxInt, 0, api.ErrRange},
	} {
		if n, e := digit.Parse(x.s, x.least, x.most); n != x.n || e != x.e {
			t.Errorf("Parse(%q, %d, %d): %d, %v; want %d, %v", x.s, x.least, x.most, n, e, x.n, x.e)
		}
	}
}

// 1.1: what is no number's text is told so, whatever the range.
func TestParseForm(t *testing.T) {
	wrong := []string{
		"", "-", "--", "--1", "-0", "-00", "00", "01", "-01", "000", "+", "+0", "+1", "-+1", "1-", "1-2",
		" 1", "1 ", "1\n", "\x00", "1\x00", "0x1", "1_000", "1e3", "1.0", "1,2", ",", "x",
		"\u0663", "\uff11", "\u22121", "1\xff",
	}
	for _, s := range wrong {
		for _, r := range [][2]int{{math.MinInt, math.MaxInt}, {0, 9}, {50, 60}, {9, -9}} {
			if n, e := digit.Parse(s, r[0], r[1]); n != 0 || e != api.ErrForm {
				t.Errorf("Parse(%q, %d, %d): %d, %v", s, r[0], r[1], n, e)
			}
		}
	}
}

// 1.1: form is looked at ahead of range, however long the text is.
func TestParseLong(t *testing.T) {
	nines := strings.Repeat("9", 100000)
	zeros := strings.Repeat("0", 100000)
	for _, s := range []string{nines, "-" + nines, "1" + zeros, "-1" + zeros} {
		if n, e := digit.Parse(s, math.MinInt, math.MaxInt); n != 0 || e != api.ErrRange {
			t.Errorf("%.10q: %d, %v", s, n, e)
		}
	}
	for _, s := range []string{nines + "x", "-" + nines + "-", "0" + nines, "-0" + nines, zeros, nines + " "} {
		if n, e := digit.Parse(s, math.MinInt, math.MaxInt); n != 0 || e != api.ErrForm {
			t.Errorf("%.10q: %d, %v", s, n, e)
		}
	}
}

// 1.1: each byte, at each place of a text.
func TestParseBytes(t *testing.T) {
	for c := range 256 {
		b := string([]byte{byte(c)})
		for _, s := range []string{b, "-" + b, b + "1", "1" + b, "-1" + b, "1" + b + "1"} {
			checkParse(t, s, -200, 200)
		}
	}
}

// 1.1: all short texts, and all ranges around them.
func TestParseShortTexts(t *testing.T) {
	texts("-+0129 ,x", 4, func(s string) {
		for _, r := range [][2]int{{math.MinInt, math.MaxInt}, {-12, 12}, {1, 99}, {-999, -1}, {0, 0}, {3, 2}} {
			checkParse(t, s, r[0], r[1])
		}
	})
}

// 1.1: the limits themselves are in the range, and what lies just beyond them is not.
func TestParseLimits(t *testing.T) {
	for _, n := range numbers() {
		s := digit.Text(n)
		checkParse(t, s, n, n)
		checkParse(t, s, math.MinInt, n)
		checkParse(t, s, n, math.MaxInt)
		if n > math.MinInt {
			checkParse(t, s, math.MinInt, n-1)
		}
		if n < math.MaxInt {
			checkParse(t, s, n+1, math.MaxInt)
		}
		checkParse(t, s+"0", math.MinInt, math.MaxInt)
		checkParse(t, "1"+s, math.MinInt, math.MaxInt)
	}
}

// 1.2: a row's text.
func TestRow(t *testing.T) {
	for _, x := range []struct {
		l []int
		s string
	}{
		{nil, "-"},
		{[]int{}, "-"},
		{[]int{0}, "0"},
		{[]int{-1}, "-1"},
		{[]int{3, 0, -1}, "3,0,-1"},
		{[]int{0, 0}, "0,0"},
		{[]int{math.MinInt, math.MaxInt}, "-9223372036854775808,9223372036854775807"},
	} {
		if got := digit.Row(x.l); got != x.s {
			t.Errorf("Row(%v): %q", x.l, got)
		}
	}
}

// 1.2: the numbers of a row's text, or the error of its first part that has one.
func TestParseRow(t *testing.T) {
	for _, x := range []struct {
		s           string
		least, most int
		l           []int
		e           api.Errno
	}{
		{"-", 0, 9, nil, api.OK},
		{"-", 9, 0, nil, api.OK},
		{"3,0,-1", -9, 9, []int{3, 0, -1}, api.OK},
		{"7", 7, 7, []int{7}, api.OK},
		{"-1", -1, 0, []int{-1}, api.OK},
		{"1,1,1", 0, 9, []int{1, 1, 1}, api.OK},
		{"", 0, 9, nil, api.ErrForm},
		{",", 0, 9, nil, api.ErrForm},
		{"1,", 0, 9, nil, api.ErrForm},
		{",1", 0, 9, nil, api.ErrForm},
		{"1,,2", 0, 9, nil, api.ErrForm},
		{"-,1", 0, 9, nil, api.ErrForm},
		{"1,-", 0, 9, nil, api.ErrForm},
		{"-,-", 0, 9, nil, api.ErrForm},
		{"--", 0, 9, nil, api.ErrForm},
		{"1, 2", 0, 9, nil, api.ErrForm},
		{"1;2", 0, 9, nil, api.ErrForm},
		{"1,02", 0, 9, nil, api.ErrForm},
		{"1,10", 0, 9, nil, api.ErrRange},
		{"1,-1", 0, 9, nil, api.ErrRange},
		{"10,x", 0, 9, nil, api.ErrRange},
		{"x,10", 0, 9, nil, api.ErrForm},
		{"1,99999999999999999999,", 0, 9, nil, api.ErrRange},
		{"1,,99999999999999999999", 0, 9, nil, api.ErrForm},
		{"5", 9, 0, nil, api.ErrRange},
	} {
		if l, e := digit.ParseRow(x.s, x.least, x.most); e != x.e || !slices.Equal(l, x.l) {
			t.Errorf("ParseRow(%q, %d, %d): %v, %v; want %v, %v", x.s, x.least, x.most, l, e, x.l, x.e)
		}
	}
}

// 1.2: all short texts, held against what their parts are to answer.
func TestParseRowShortTexts(t *testing.T) {
	texts("-,012 ", 6, func(s string) {
		for _, r := range [][2]int{{math.MinInt, math.MaxInt}, {-1, 20}} {
			var want []int
			first := api.OK
			if s != "-" {
				for _, part := range strings.Split(s, ",") {
					n, e := expected(part, r[0], r[1])
					if e != api.OK {
						want, first = nil, e
						break
					}
					want = append(want, n)
				}
			}
			if l, e := digit.ParseRow(s, r[0], r[1]); e != first || !slices.Equal(l, want) {
				t.Errorf("ParseRow(%q, %d, %d): %v, %v; want %v, %v", s, r[0], r[1], l, e, want, first)
			}
		}
	})
}

// 1.3: numbers are read as they were written, and no two are written alike.
func TestNumbersThereAndBack(t *testing.T) {
	met := map[string]int{}
	for _, n := range numbers() {
		s := digit.Text(n)
		if back, e := digit.Parse(s, math.MinInt, math.MaxInt); back != n || e != api.OK {
			t.Errorf("%d: %d, %v", n, back, e)
		}
		if other, ok := met[s]; ok && other != n {
			t.Errorf("%d and %d are both %q", n, other, s)
		}
		met[s] = n
	}
}

// 1.3: rows are read as they were written.
func TestRowsThereAndBack(t *testing.T) {
	all := numbers()
	for _, l := range [][]int{nil, all, all[:1], all[:2], all[2:3], slices.Repeat([]int{-1}, 70000)} {
		if back, e := digit.ParseRow(digit.Row(l), math.MinInt, math.MaxInt); e != api.OK || !slices.Equal(back, l) {
			t.Errorf("a row of %d: %d, %v", len(l), len(back), e)
		}
	}
}

// 1.3: no other text leads to a number, or to a row, than the one that is written of it.
func TestNoOtherText(t *testing.T) {
	texts("-+,01 ", 6, func(s string) {
		if n, e := digit.Parse(s, math.MinInt, math.MaxInt); e == api.OK && digit.Text(n) != s {
			t.Errorf("%q is read as %d", s, n)
		}
		if l, e := digit.ParseRow(s, math.MinInt, math.MaxInt); e == api.OK && digit.Row(l) != s {
			t.Errorf("%q is read as %v", s, l)
		}
	})
}

// R4: what is handed in stays, nothing behind a list's length is read, and answers share nothing.
func TestMemory(t *testing.T) {
	room := []int{1, 2, 3, 4}
	if s := digit.Row(room[:2]); s != "1,2" || !slices.Equal(room, []int{1, 2, 3, 4}) {
		t.Error(s, room)
	}
	if s := digit.Row(room[:0]); s != "-" {
		t.Error(s)
	}
	a, _ := digit.ParseRow("1,2,3", 0, 9)
	b, _ := digit.ParseRow("1,2,3", 0, 9)
	a[0] = 9
	if _ = append(a[:1], 8); b[0] != 1 || b[1] != 2 {
		t.Error(b)
	}
}
