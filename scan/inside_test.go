package scan

import (
	"testing"

	"jurat/api"
	"jurat/pats"
	"jurat/walk"
)

// newScanner is a scanner of a pattern.
func newScanner(t *testing.T, pattern string) *Scanner {
	t.Helper()
	x, e := pats.New([]string{pattern})
	if e != api.OK {
		t.Fatal(e)
	}
	s, _, e := New(x, api.Config{Table: api.Sparse, Skip: true, Every: 9})
	if e != api.OK {
		t.Fatal(e)
	}
	return s
}

// walkOf is the walk of a pattern, to which some bytes came.
func walkOf(t *testing.T, pattern, came string) *walk.Walk {
	t.Helper()
	w := newScanner(t, pattern).walk
	w.Feed(came)
	return w
}

// 32.2: a walk that tells other hits, which no call from outside brings about: too many, too few, other Ends, and the same ones, but with another part.
func TestAgrees(t *testing.T) {
	for _, q := range []struct {
		walk  *walk.Walk
		parts []string
		want  []bool
	}{
		{walkOf(t, "bc", ""), []string{"a", "bc", "xbc"}, []bool{true, true, true}},
		{walkOf(t, "c", ""), []string{"a", "bc", "xbc"}, []bool{true, true, true}},
		{walkOf(t, "c", ""), []string{"a", "c", "bc"}, []bool{true, false, false}},
		{walkOf(t, "abc", ""), []string{"", "abc", "xbc", "abc"}, []bool{true, true, false, false}},
		{walkOf(t, "x", ""), []string{"abc", "x"}, []bool{false, false}},
		{walkOf(t, "bc", "x"), []string{"a", "bc", ""}, []bool{true, false, false}},
		{walkOf(t, "bc", "b"), []string{"a", "c", "bc"}, []bool{true, true, false}},
		{walkOf(t, "bc", "b"), []string{"c", "x"}, []bool{false, false}},
		{nil, []string{"a", "b", "c", ""}, []bool{true, true, false, false}},
	} {
		s := newScanner(t, "bc")
		s.walk = q.walk
		if !s.Agrees() {
			t.Error("Agrees(), ahead of all parts: false; want true")
		}
		for i, part := range q.parts {
			s.Feed(part)
			if ok := s.Agrees(); ok != q.want[i] {
				t.Errorf("Agrees(), behind %q: %v; want %v", q.parts[:i+1], ok, q.want[i])
			}
		}
		want := s.Agrees()
		s.Close()
		if s.Agrees() != want {
			t.Errorf("Agrees(), closed, behind %q: %v; want %v", q.parts, !want, want)
		}
	}
}

// 32.1: how long a stream may be: just as long as MaxStream says, which no test can give it.
func TestOverEdge(t *testing.T) {
	for _, came := range []string{"", "x", "bcx", "xxxxxbc"} {
		s := newScanner(t, "bc")
		s.Feed(came)
		n := len(came)
		for _, q := range []struct {
			more int
			want api.Errno
		}{{0, api.OK}, {1, api.OK}, {api.MaxStream - n - 1, api.OK}, {api.MaxStream - n, api.OK}, {api.MaxStream - n + 1, api.ErrOver}, {api.MaxStream + 1, api.ErrOver}} {
			if e := s.fault(q.more); e != q.want {
				t.Errorf("fault(%d), behind %d bytes: %v; want %v", q.more, n, e, q.want)
			}
		}
	}
}
