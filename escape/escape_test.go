package escape_test

import (
	"fmt"
	"slices"
	"strings"
	"testing"

	"jurat/api"
	"jurat/escape"
)

// plain is all bytes from 33 to 126, but for the backslash.
const plain = "!\"#$%&'()*+,-./0123456789:;<=>?@ABCDEFGHIJKLMNOPQRSTUVWXYZ[]^_`abcdefghijklmnopqrstuvwxyz{|}~"

// texts calls f with each text of at most so many bytes out of an alphabet.
func texts(alphabet string, most int, f func(string)) {
	var grow func(string)
	grow = func(s string) {
		f(s)
		if len(s) == most {
			return
		}
		for i := range len(alphabet) {
			grow(s + alphabet[i:i+1])
		}
	}
	grow("")
}

// all is all bytes, from the least one on.
func all() string {
	var b []byte
	for c := range 256 {
		b = append(b, byte(c))
	}
	return string(b)
}

// writing is how a byte is written among others, as the chapter words it.
func writing(c byte) string {
	switch {
	case strings.IndexByte(plain, c) >= 0:
		return string([]byte{c})
	case c == '\\':
		return `\\`
	}
	return fmt.Sprintf(`\x%02x`, c)
}

// wantQuote is how bytes are written, as the chapter words it.
func wantQuote(s string) string {
	switch s {
	case "":
		return "-"
	case "-":
		return `\x2d`
	}
	var l []string
	for _, c := range []byte(s) {
		l = append(l, writing(c))
	}
	return strings.Join(l, "")
}

// reader finds bytes by how they are written, as the chapter words it: it tries all bytes at each place.
type reader struct{ writings []string }

func newReader() reader {
	var r reader
	for c := range 256 {
		r.writings = append(r.writings, writing(byte(c)))
	}
	return r
}

// bytes is all texts that are made of the writings that s is made of.
func (r reader) bytes(s string) []string {
	if s == "" {
		return []string{""}
	}
	var l []string
	for c, w := range r.writings {
		rest, ok := strings.CutPrefix(s, w)
		if !ok {
			continue
		}
		for _, t := range r.bytes(rest) {
			l = append(l, string([]byte{byte(c)})+t)
		}
	}
	return l
}

// want is what Unquote is to answer of s.
func (r reader) want(t *testing.T, s string) (string, api.Errno) {
	t.Helper()
	var l []string
	for _, u := range append(r.bytes(s), "", "-") {
		if wantQuote(u) == s && !slices.Contains(l, u) {
			l = append(l, u)
		}
	}
	if len(l) > 1 {
		t.Errorf("%x is how %x are written", s, l)
	}
	if len(l) == 0 {
		return "", api.ErrForm
	}
	return l[0], api.OK
}

func checkQuote(t *testing.T, s, want string) {
	t.Helper()
	if w := escape.Quote(s); w != want {
		t.Errorf("Quote(%.40x): %.80q; want %.80q", s, w, want)
	}
}

func checkUnquote(t *testing.T, s, want string, we api.Errno) {
	t.Helper()
	if u, e := escape.Unquote(s); u != want || e != we {
		t.Errorf("Unquote(%.80q): %.40x, %v; want %.40x, %v", s, u, e, want, we)
	}
}

func checkWords(t *testing.T, s string, want []string) {
	t.Helper()
	if l := escape.Words(s); !slices.Equal(l, want) {
		t.Errorf("Words(%.40q): %.40q; want %.40q", s, l, want)
	}
}

// 5.1: which of all bytes are plain.
func TestPlain(t *testing.T) {
	if len(plain) != 126-33+1-1 {
		t.Fatalf("%d bytes", len(plain))
	}
	for c := range 256 {
		want := c >= 33 && c <= 126 && c != 92
		if p := escape.Plain(byte(c)); p != want {
			t.Errorf("Plain(%d): %v; want %v", c, p, want)
		}
	}
}

// 5.1: how bytes are written, by examples, and that they are read again.
func TestQuote(t *testing.T) {
	for _, x := range []struct{ s, w string }{
		{`a b\`, `a\x20b\\`},
		{"", "-"},
		{"-", `\x2d`},
		{"--", "--"},
		{"-a", "-a"},
		{"a-", "a-"},
		{"- ", `-\x20`},
		{"-\\", `-\\`},
		{"-\x00", `-\x00`},
		{"\\", `\\`},
		{`\\`, `\\\\`},
		{`\x2d`, `\\x2d`},
		{"\x00", `\x00`},
		{" ", `\x20`},
		{"!", "!"},
		{"~", "~"},
		{"\x7f", `\x7f`},
		{"\x80\xff", `\x80\xff`},
		{"\xab\xcd\xef", `\xab\xcd\xef`},
		{"a\nb\tc", `a\x0ab\x09c`},
		{"\u00e4", `\xc3\xa4`},
		{"abc", "abc"},
		{"x41", "x41"},
		{"\"'`", "\"'`"},
	} {
		checkQuote(t, x.s, x.w)
		checkUnquote(t, x.w, x.s, api.OK)
	}
}

// 5.1: what is not written, by examples.
func TestUnquoteErrors(t *testing.T) {
	for _, s := range []string{
		"", " ", "a b", "a ", " a", "\t", "\n", "a\n", "\x00", "\x1f", "\x7f", "\x80", "\xff", "\u00e4",
		`\`, `a\`, `\\\`, `\x`, `\x0`, `a\x`, `a\x2`, `\a`, `\0`, `\00`, `\n`, `\-`, `\ `, `\x `, `\x0 `,
		`\x41`, `\x21`, `\x7e`, `\x61`, `\x5c`, `\x30`, `\x78`,
		`\X00`, `\x0A`, `\xA0`, `\xFF`, `\xfF`, `\xg0`, `\x0g`, `\x/0`, `\x0:`, "\\x0`", `\x-1`, `\x+1`, `\x0x`, `\x0_`,
		`\x2da`, `a\x2d`, `\x2d\x2d`, `\x2d-`, `-\x2d`, `\x2d\x00`, `\x00\x2d`, `\x2D`, `\x2d `,
		`\u0020`, `\x{20}`, `%20 `, `\40`,
	} {
		checkUnquote(t, s, "", api.ErrForm)
	}
}

// 5.1: what is written with no bytes, with one, and with a dash that is not alone.
func TestDash(t *testing.T) {
	checkUnquote(t, "-", "", api.OK)
	checkUnquote(t, `\x2d`, "-", api.OK)
	checkUnquote(t, "--", "--", api.OK)
	checkUnquote(t, `-\\`, `-\`, api.OK)
	checkUnquote(t, `\\-`, `\-`, api.OK)
}

// 5.1, 5.3: all texts of at most two bytes are written as the chapter words it, in one word of bytes from 33 to 126, and read as they were; unlike ones are written unlike.
func TestTexts(t *testing.T) {
	seen := map[string]int{}
	count := 0
	texts(all(), 2, func(s string) {
		w := escape.Quote(s)
		checkQuote(t, s, wantQuote(s))
		checkUnquote(t, w, s, api.OK)
		checkOne(t, s, w)
		seen[w]++
		count++
	})
	texts("\\x2d -", 6, func(s string) {
		checkQuote(t, s, wantQuote(s))
		checkUnquote(t, wantQuote(s), s, api.OK)
	})
	if len(seen) != count {
		t.Errorf("%d texts are written in %d ways", count, len(seen))
	}
}

// checkOne asks whether what is written of s is one word, whatever stands beside it.
func checkOne(t *testing.T, s, w string) {
	t.Helper()
	for _, c := range []byte(w) {
		if c < 33 || c > 126 {
			t.Errorf("Quote(%x) has byte %d", s, c)
		}
	}
	checkWords(t, w, []string{w})
	checkWords(t, "a "+w+" ", []string{"a", w})
}

// 5.1: Unquote of all texts of at most two bytes, and of longer ones out of the bytes that writings are made of.
func TestUnquote(t *testing.T) {
	r := newReader()
	try := func(s string) {
		want, we := r.want(t, s)
		checkUnquote(t, s, want, we)
		if we == api.OK {
			checkQuote(t, want, s)
		}
	}
	texts(all(), 2, try)
	texts("\\x2d-", 6, try)
	texts("\\x05cAf ", 5, try)
}

// 5.1: of all pairs of bytes behind a backslash and an x, those stand for a byte that are its digits, if it is neither plain nor a backslash.
func TestDigits(t *testing.T) {
	want := map[string]string{}
	for c := range 256 {
		if strings.IndexByte(plain+"\\", byte(c)) < 0 {
			want[fmt.Sprintf("%02x", c)] = string([]byte{byte(c)})
		}
	}
	for hi := range 256 {
		for lo := range 256 {
			pair := string([]byte{byte(hi), byte(lo)})
			u, ok := want[pair]
			switch {
			case ok:
				checkUnquote(t, `\x`+pair, u, api.OK)
				checkUnquote(t, `a\x`+pair+"b", "a"+u+"b", api.OK)
			case pair == "2d":
				checkUnquote(t, `\x`+pair, "-", api.OK)
				checkUnquote(t, `a\x`+pair+"b", "", api.ErrForm)
			default:
				checkUnquote(t, `\x`+pair, "", api.ErrForm)
				checkUnquote(t, `a\x`+pair+"b", "", api.ErrForm)
			}
		}
	}
}

// 5.1, 5.3: long texts, written and read as they were, and refused for their last byte.
func TestLong(t *testing.T) {
	for _, s := range []string{strings.Repeat(all(), 300), strings.Repeat("\\", 1<<16), strings.Repeat("-", 1<<16), strings.Repeat("\x00", 1<<16)} {
		w := wantQuote(s)
		checkQuote(t, s, w)
		checkUnquote(t, w, s, api.OK)
		checkUnquote(t, w+" ", "", api.ErrForm)
		checkUnquote(t, w+"\\", "", api.ErrForm)
		checkUnquote(t, w+`\x2d`, "", api.ErrForm)
		checkWords(t, w, []string{w})
	}
}

// 5.2: words, by examples: blanks alone stand between them.
func TestWords(t *testing.T) {
	for _, x := range []struct {
		s string
		l []string
	}{
		{"", nil},
		{" ", nil},
		{"     ", nil},
		{"a", []string{"a"}},
		{"ab cd", []string{"ab", "cd"}},
		{"  ab   cd ", []string{"ab", "cd"}},
		{"b a b", []string{"b", "a", "b"}},
		{"a\tb\nc\vd\fe\rf", []string{"a\tb\nc\vd\fe\rf"}},
		{"\t \n", []string{"\t", "\n"}},
		{"a\x00 \x00", []string{"a\x00", "\x00"}},
		{"a\u00a0b\u2003c\u0085d", []string{"a\u00a0b\u2003c\u0085d"}},
		{"\xa0 \x85", []string{"\xa0", "\x85"}},
		{"\xe2 \x80 \x83", []string{"\xe2", "\x80", "\x83"}},
		{"\xff\xfe \xff", []string{"\xff\xfe", "\xff"}},
		{`a\ b -`, []string{`a\`, "b", "-"}},
	} {
		checkWords(t, x.s, x.l)
	}
}

// 5.2: words of all short texts of blanks and others.
func TestShortLines(t *testing.T) {
	texts(" a\\\t\x00\xe2\x80", 6, func(s string) {
		var want []string
		for _, w := range strings.Split(s, " ") {
			if w != "" {
				want = append(want, w)
			}
		}
		checkWords(t, s, want)
	})
}

// 5.2: no byte but the blank parts words.
func TestBetween(t *testing.T) {
	for _, c := range []byte(all()) {
		s := "a" + string([]byte{c}) + "b"
		if c == 32 {
			checkWords(t, s, []string{"a", "b"})
			continue
		}
		checkWords(t, s, []string{s})
	}
}

// 5.2, R4: lists of words share no memory; a list of none is empty.
func TestMemory(t *testing.T) {
	a, b := escape.Words("ab cd e"), escape.Words("ab cd e")
	clear(a[:cap(a)])
	if !slices.Equal(b, []string{"ab", "cd", "e"}) {
		t.Errorf("lists of Words share memory: %q", b)
	}
	checkWords(t, "ab cd e", []string{"ab", "cd", "e"})
}

// R5: the same again, with and without fault.
func TestAgain(t *testing.T) {
	for range 3 {
		checkQuote(t, "a b", `a\x20b`)
		checkUnquote(t, `a\x20b`, "a b", api.OK)
		checkUnquote(t, `a\x20\`, "", api.ErrForm)
		checkUnquote(t, "-", "", api.OK)
		checkWords(t, " a b", []string{"a", "b"})
	}
}
