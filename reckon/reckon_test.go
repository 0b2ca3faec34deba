package reckon_test

import (
	"math"
	"math/big"
	"testing"

	"jurat/api"
	"jurat/reckon"
)

// most is the greatest offset, 2^62 - 1, as the chapter writes it.
const most = 1<<62 - 1

// numbers are small ones, those beside the greatest offset and beside its root, powers of two with what lies beside them, and as many below 0.
func numbers() []int {
	l := []int{math.MinInt, math.MinInt + 1, math.MaxInt, math.MaxInt - 1}
	for n := range 12 {
		l = append(l, n, -n, most-n, most+n, -most+n, -most-n)
	}
	for _, n := range []int{1 << 31, 3037000500, most / 2, most / 3, most / 5, most / 7, most / 715827883} {
		for d := -2; d <= 2; d++ {
			l = append(l, n+d)
		}
	}
	for bit := 4; bit < 62; bit += 3 {
		for d := -1; d <= 1; d++ {
			l = append(l, 1<<bit+d, -1<<bit+d)
		}
	}
	return l
}

// few are numbers of which all threes can be asked.
func few() []int {
	return []int{
		math.MinInt, math.MinInt + 1, -most, -2, -1, 0, 1, 2, 3, 4, 5, 7, 10, 1000,
		1<<31 - 1, 1 << 31, 1<<31 + 1, 1 << 32, 1<<61 - 1, 1 << 61, 1<<61 + 1,
		most / 3, most/3 + 1, most - 2, most - 1, most, most + 1, most + 2, math.MaxInt - 1, math.MaxInt,
	}
}

// exact is a number of the library's, which does not go round.
func exact(n int) *big.Int {
	return big.NewInt(int64(n))
}

// isOffset is whether a number of the library's lies from 0 to 2^62 - 1.
func isOffset(n *big.Int) bool {
	return n.Sign() >= 0 && n.BitLen() <= 62
}

// allOffsets is whether numbers lie from 0 to 2^62 - 1.
func allOffsets(l ...int) bool {
	for _, n := range l {
		if !isOffset(exact(n)) {
			return false
		}
	}
	return true
}

// offset is what is answered of an exact result: it, if it is an offset, else ErrOver.
func offset(n *big.Int) (int, api.Errno) {
	if !isOffset(n) {
		return 0, api.ErrOver
	}
	return int(n.Int64()), api.OK
}

// The answers as the chapter words them, by the library's numbers.

func wantAdd(a, b int) (int, api.Errno) {
	if !allOffsets(a, b) {
		return 0, api.ErrArg
	}
	return offset(new(big.Int).Add(exact(a), exact(b)))
}

func wantSub(a, b int) (int, api.Errno) {
	if !allOffsets(a, b) {
		return 0, api.ErrArg
	}
	if exact(b).Cmp(exact(a)) > 0 {
		return 0, api.ErrRange
	}
	return offset(new(big.Int).Sub(exact(a), exact(b)))
}

func wantMul(a, n int) (int, api.Errno) {
	if !allOffsets(a, n) {
		return 0, api.ErrArg
	}
	return offset(new(big.Int).Mul(exact(a), exact(n)))
}

func wantWalk(at, length, times int) (int, api.Errno) {
	if !allOffsets(at, length, times) {
		return 0, api.ErrArg
	}
	steps := new(big.Int).Mul(exact(length), exact(times))
	return offset(steps.Add(steps, exact(at)))
}

func wantTimes(from, to, length int) (int, api.Errno) {
	if _, e := wantSub(to, from); e != api.OK {
		return 0, e
	}
	if !allOffsets(length) || length == 0 {
		return 0, api.ErrArg
	}
	between := new(big.Int).Sub(exact(to), exact(from))
	return offset(between.Quo(between, exact(length)))
}

// askTwo holds a call of two numbers against what it is to answer.
func askTwo(t *testing.T, name string, call, want func(a, b int) (int, api.Errno), a, b int) {
	t.Helper()
	n, e := call(a, b)
	if wn, we := want(a, b); n != wn || e != we {
		t.Errorf("%s(%d, %d): %d, %v; want %d, %v", name, a, b, n, e, wn, we)
	}
}

// askThree holds a call of three numbers against what it is to answer.
func askThree(t *testing.T, name string, call, want func(a, b, c int) (int, api.Errno), a, b, c int) {
	t.Helper()
	n, e := call(a, b, c)
	if wn, we := want(a, b, c); n != wn || e != we {
		t.Errorf("%s(%d, %d, %d): %d, %v; want %d, %v", name, a, b, c, n, e, wn, we)
	}
}

// 3.1: an offset is a number from 0 to MaxStream.
func TestIs(t *testing.T) {
	for _, x := range []struct {
		n  int
		is bool
	}{
		{0, true},
		{1, true},
		{1 << 61, true},
		{most - 1, true},
		{most, true},
		{api.MaxStream, true},
		{most + 1, false},
		{1 << 62, false},
		{math.MaxInt, false},
		{-1, false},
		{-most, false},
		{math.MinInt, false},
	} {
		if is := reckon.Is(x.n); is != x.is {
			t.Errorf("Is(%d): %v", x.n, is)
		}
	}
	for _, n := range numbers() {
		if is := reckon.Is(n); is != isOffset(exact(n)) {
			t.Errorf("Is(%d): %v", n, is)
		}
	}
}

// 3.1: a sum, by examples: what is no offset is told ahead of a sum that is none.
func TestAdd(t *testing.T) {
	for _, x := range []struct {
		a, b, n int
		e       api.Errno
	}{
		{0, 0, 0, api.OK},
		{3, 4, 7, api.OK},
		{most, 0, most, api.OK},
		{0, most, most, api.OK},
		{most - 1, 1, most, api.OK},
		{1 << 61, 1<<61 - 1, most, api.OK},
		{1 << 61, 1 << 61, 0, api.ErrOver},
		{most, 1, 0, api.ErrOver},
		{1, most, 0, api.ErrOver},
		{most, most, 0, api.ErrOver},
		{-1, 5, 0, api.ErrArg},
		{5, -1, 0, api.ErrArg},
		{-1, -1, 0, api.ErrArg},
		{most + 1, 0, 0, api.ErrArg},
		{0, most + 1, 0, api.ErrArg},
		{most, most + 1, 0, api.ErrArg},
		{math.MaxInt, math.MaxInt, 0, api.ErrArg},
		{math.MaxInt, math.MinInt, 0, api.ErrArg},
		{math.MinInt, math.MinInt, 0, api.ErrArg},
	} {
		if n, e := reckon.Add(x.a, x.b); n != x.n || e != x.e {
			t.Errorf("Add(%d, %d): %d, %v; want %d, %v", x.a, x.b, n, e, x.n, x.e)
		}
	}
}

// 3.1: a difference, by examples: what is no offset is told ahead of an order that is wrong.
func TestSub(t *testing.T) {
	for _, x := range []struct {
		a, b, n int
		e       api.Errno
	}{
		{0, 0, 0, api.OK},
		{7, 4, 3, api.OK},
		{7, 7, 0, api.OK},
		{7, 8, 0, api.ErrRange},
		{0, 1, 0, api.ErrRange},
		{0, most, 0, api.ErrRange},
		{most, most, 0, api.OK},
		{most, 0, most, api.OK},
		{most - 1, most, 0, api.ErrRange},
		{-1, 0, 0, api.ErrArg},
		{0, -1, 0, api.ErrArg},
		{-1, -2, 0, api.ErrArg},
		{0, most + 1, 0, api.ErrArg},
		{most + 1, 0, 0, api.ErrArg},
		{math.MaxInt, math.MinInt, 0, api.ErrArg},
		{math.MinInt, math.MaxInt, 0, api.ErrArg},
	} {
		if n, e := reckon.Sub(x.a, x.b); n != x.n || e != x.e {
			t.Errorf("Sub(%d, %d): %d, %v; want %d, %v", x.a, x.b, n, e, x.n, x.e)
		}
	}
}

// 3.1: a product, by examples, among them those that go round to an offset.
func TestMul(t *testing.T) {
	for _, x := range []struct {
		a, b, n int
		e       api.Errno
	}{
		{0, 0, 0, api.OK},
		{0, 5, 0, api.OK},
		{5, 0, 0, api.OK},
		{0, most, 0, api.OK},
		{most, 0, 0, api.OK},
		{3, 4, 12, api.OK},
		{1, most, most, api.OK},
		{most, 1, most, api.OK},
		{3, most / 3, most, api.OK},
		{most / 3, 3, most, api.OK},
		{1<<31 - 1, 1<<31 + 1, most, api.OK},
		{2, 1<<61 - 1, most - 1, api.OK},
		{2, 1 << 61, 0, api.ErrOver},
		{1 << 61, 2, 0, api.ErrOver},
		{1 << 31, 1 << 31, 0, api.ErrOver},
		{1 << 32, 1 << 32, 0, api.ErrOver},
		{1 << 61, 8, 0, api.ErrOver},
		{1 << 61, 9, 0, api.ErrOver},
		{4, most, 0, api.ErrOver},
		{most, most, 0, api.ErrOver},
		{-1, 0, 0, api.ErrArg},
		{0, -1, 0, api.ErrArg},
		{-1, -1, 0, api.ErrArg},
		{0, most + 1, 0, api.ErrArg},
		{most + 1, 0, 0, api.ErrArg},
		{most, most + 1, 0, api.ErrArg},
		{math.MinInt, -1, 0, api.ErrArg},
		{math.MinInt, 0, 0, api.ErrArg},
	} {
		if n, e := reckon.Mul(x.a, x.b); n != x.n || e != x.e {
			t.Errorf("Mul(%d, %d): %d, %v; want %d, %v", x.a, x.b, n, e, x.n, x.e)
		}
	}
}

// 3.1: each two of many numbers.
func TestTwo(t *testing.T) {
	l := numbers()
	for _, a := range l {
		for _, b := range l {
			askTwo(t, "Add", reckon.Add, wantAdd, a, b)
			askTwo(t, "Sub", reckon.Sub, wantSub, a, b)
			askTwo(t, "Mul", reckon.Mul, wantMul, a, b)
		}
	}
}

// 3.1: sums and products that are just an offset, or just none.
func TestTwoAtTheEdge(t *testing.T) {
	for _, a := range numbers() {
		if !isOffset(exact(a)) {
			continue
		}
		for d := -2; d <= 2; d++ {
			askTwo(t, "Add", reckon.Add, wantAdd, a, most-a+d)
			askTwo(t, "Sub", reckon.Sub, wantSub, a, a+d)
			if a > 0 {
				askTwo(t, "Mul", reckon.Mul, wantMul, a, most/a+d)
				askTwo(t, "Mul", reckon.Mul, wantMul, most/a+d, a)
			}
		}
	}
}

// 3.2: where steps lead, by examples: what is no offset is told ahead of steps that lead too far, wherever it stands.
func TestWalk(t *testing.T) {
	for _, x := range []struct {
		at, length, times, n int
		e                    api.Errno
	}{
		{0, 0, 0, 0, api.OK},
		{3, 5, 2, 13, api.OK},
		{3, 2, 5, 13, api.OK},
		{3, 5, 0, 3, api.OK},
		{3, 0, 5, 3, api.OK},
		{most, 0, most, most, api.OK},
		{most, most, 0, most, api.OK},
		{0, most, 1, most, api.OK},
		{0, 1, most, most, api.OK},
		{1, 2, 1<<61 - 1, most, api.OK},
		{0, most / 3, 3, most, api.OK},
		{1, most / 3, 3, 0, api.ErrOver},
		{2, 2, 1<<61 - 1, 0, api.ErrOver},
		{0, 2, 1 << 61, 0, api.ErrOver},
		{most, 1, 1, 0, api.ErrOver},
		{most, most, most, 0, api.ErrOver},
		{0, 1 << 32, 1 << 32, 0, api.ErrOver},
		{5, 1 << 61, 8, 0, api.ErrOver},
		{-1, 1, 1, 0, api.ErrArg},
		{1, -1, 1, 0, api.ErrArg},
		{1, 1, -1, 0, api.ErrArg},
		{1, 0, -1, 0, api.ErrArg},
		{1, -1, 0, 0, api.ErrArg},
		{1, -1, -1, 0, api.ErrArg},
		{-1, most, most, 0, api.ErrArg},
		{most + 1, most, most, 0, api.ErrArg},
		{most, most, most + 1, 0, api.ErrArg},
		{most, most + 1, most, 0, api.ErrArg},
		{math.MinInt, math.MinInt, math.MinInt, 0, api.ErrArg},
	} {
		if n, e := reckon.Walk(x.at, x.length, x.times); n != x.n || e != x.e {
			t.Errorf("Walk(%d, %d, %d): %d, %v; want %d, %v", x.at, x.length, x.times, n, e, x.n, x.e)
		}
	}
}

// 3.2: how many whole lengths lie between, by examples: Sub's errors are told ahead of a length that is none.
func TestTimes(t *testing.T) {
	for _, x := range []struct {
		from, to, length, n int
		e                   api.Errno
	}{
		{3, 14, 5, 2, api.OK},
		{3, 13, 5, 2, api.OK},
		{3, 12, 5, 1, api.OK},
		{3, 8, 5, 1, api.OK},
		{3, 7, 5, 0, api.OK},
		{3, 3, 5, 0, api.OK},
		{0, 0, 1, 0, api.OK},
		{0, most, 1, most, api.OK},
		{1, most, 1, most - 1, api.OK},
		{0, most, most, 1, api.OK},
		{1, most, most, 0, api.OK},
		{most, most, most, 0, api.OK},
		{0, most, 3, most / 3, api.OK},
		{14, 3, 5, 0, api.ErrRange},
		{4, 3, 5, 0, api.ErrRange},
		{4, 3, 0, 0, api.ErrRange},
		{4, 3, -1, 0, api.ErrRange},
		{4, 3, most + 1, 0, api.ErrRange},
		{most, 0, 0, 0, api.ErrRange},
		{3, 14, 0, 0, api.ErrArg},
		{3, 3, 0, 0, api.ErrArg},
		{3, 14, -1, 0, api.ErrArg},
		{3, 14, -5, 0, api.ErrArg},
		{3, 14, most + 1, 0, api.ErrArg},
		{3, 14, math.MinInt, 0, api.ErrArg},
		{-1, 14, 5, 0, api.ErrArg},
		{3, -1, 5, 0, api.ErrArg},
		{-1, -2, 5, 0, api.ErrArg},
		{-1, 14, 0, 0, api.ErrArg},
		{most + 1, 14, 5, 0, api.ErrArg},
		{3, most + 1, 5, 0, api.ErrArg},
		{math.MinInt, math.MaxInt, 1, 0, api.ErrArg},
		{math.MaxInt, math.MinInt, 0, 0, api.ErrArg},
	} {
		if n, e := reckon.Times(x.from, x.to, x.length); n != x.n || e != x.e {
			t.Errorf("Times(%d, %d, %d): %d, %v; want %d, %v", x.from, x.to, x.length, n, e, x.n, x.e)
		}
	}
}

// 3.2: each three of some numbers, and all small ones.
func TestThree(t *testing.T) {
	ask := func(a, b, c int) {
		askThree(t, "Walk", reckon.Walk, wantWalk, a, b, c)
		askThree(t, "Times", reckon.Times, wantTimes, a, b, c)
	}
	for _, a := range few() {
		for _, b := range few() {
			for _, c := range few() {
				ask(a, b, c)
			}
		}
	}
	for a := -2; a < 20; a++ {
		for b := -2; b < 20; b++ {
			for c := -2; c < 20; c++ {
				ask(a, b, c)
			}
		}
	}
}

// 3.3: what is added is taken away again.
func TestAddedAndTakenAway(t *testing.T) {
	l := numbers()
	for _, a := range l {
		for _, b := range l {
			sum, e := reckon.Add(a, b)
			if e != api.OK {
				continue
			}
			if n, e := reckon.Sub(sum, b); n != a || e != api.OK {
				t.Errorf("%d and %d are %d, but less the second one: %d, %v", a, b, sum, n, e)
			}
			if n, e := reckon.Sub(sum, a); n != b || e != api.OK {
				t.Errorf("%d and %d are %d, but less the first one: %d, %v", a, b, sum, n, e)
			}
		}
	}
}

// 3.3: as many steps as lie between two offsets do not lead beyond the second one, and one more does.
func TestStepsBetween(t *testing.T) {
	for _, from := range few() {
		for _, to := range few() {
			for _, length := range few() {
				times, e := reckon.Times(from, to, length)
				if e != api.OK {
					continue
				}
				if n, e := reckon.Walk(from, length, times); n > to || e != api.OK {
					t.Errorf("from %d to %d by %d: %d steps lead to %d, %v", from, to, length, times, n, e)
				}
				// One more may lead beyond all offsets; it may even be one step more than an offset can count.
				n, e := reckon.Walk(from, length, times+1)
				beyond := e == api.OK && n > to || e == api.ErrOver || times == most && e == api.ErrArg
				if !beyond {
					t.Errorf("from %d to %d by %d: %d steps lead to %d, %v", from, to, length, times+1, n, e)
				}
			}
		}
	}
}
