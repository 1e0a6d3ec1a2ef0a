package axis_test

import (
	"math"
	"slices"
	"testing"

	"espalier/api"
	"espalier/axis"
)

// wrong is what the chapter says of the span at a place, held against each of those ahead.
func wrong(l []api.Span, i int) api.Errno {
	s := l[i]
	if !possible(s) {
		return 110
	}
	if i > 0 && l[i-1].Begin >= s.Begin {
		return 71
	}
	n := 0
	for _, a := range l[:i] {
		if around(a, s) {
			n++
		}
		if s.Begin >= a.Begin && s.Begin <= a.End && s.End >= a.End {
			return 111
		}
	}
	if n != s.Level {
		return 111
	}
	return api.OK
}

func wantCheck(l []api.Span) (int, api.Errno) {
	if len(l) > 8192 {
		return 0, 2
	}
	for i := range l {
		if e := wrong(l, i); e != api.OK {
			return i, e
		}
	}
	return 0, api.OK
}

// P9.4: by hand, the edges and what is wrong.
func TestCheckByHand(t *testing.T) {
	check(t, nil, 0, api.OK)
	check(t, []api.Span{}, 0, api.OK)
	check(t, []api.Span{sp(1, 5, 0), sp(3, 8, 0)}, 1, api.ErrNest) // the document's second example
	check(t, []api.Span{sp(1, 10, 0), sp(2, 5, 1), sp(3, 4, 2), sp(6, 9, 1), sp(11, 12, 0)}, 0, api.OK)
	for i, x := range []struct {
		s   api.Span
		why api.Errno
	}{
		{sp(1, 2, 0), api.OK},
		{sp(1<<62-2, 1<<62-1, 0), api.OK},
		{sp(1, 1<<62-1, 0), api.OK},
		{sp(1, 1<<62, 0), api.ErrSpan},
		{sp(1, math.MaxUint64, 0), api.ErrSpan},
		{sp(0, 2, 0), api.ErrSpan},
		{sp(2, 2, 0), api.ErrSpan},
		{sp(3, 2, 0), api.ErrSpan},
		{sp(1, 2, -1), api.ErrSpan},
		{sp(1, 2, 64), api.ErrSpan},
		{sp(1, 2, 63), api.ErrNest},
		{sp(1, 2, 1), api.ErrNest},
		{api.Span{}, api.ErrSpan},
	} {
		if at, e := axis.Check([]api.Span{x.s}); at != 0 || e != x.why {
			t.Errorf("%d: %d, %d; want 0, %d", i, at, e, x.why)
		}
	}
	for i, x := range []struct {
		s   api.Span
		why api.Errno
	}{
		{sp(13, 14, 2), api.OK},
		{sp(13, 14, 1), api.ErrNest},
		{sp(13, 14, 3), api.ErrNest},
		{sp(13, 14, 0), api.ErrNest},
		{sp(12, 14, 2), api.ErrOrder},
		{sp(11, 14, 2), api.ErrOrder},
		{sp(1, 50, 0), api.ErrOrder},
		{sp(13, 18, 2), api.ErrNest}, // it ends where the one around it does
		{sp(13, 19, 2), api.ErrNest},
		{sp(13, 19, 1), api.ErrNest},
		{sp(18, 19, 1), api.ErrNest}, // it begins where that one ends
		{sp(18, 19, 2), api.ErrNest},
		{sp(18, 50, 0), api.ErrNest},
		{sp(19, 20, 1), api.OK},
		{sp(19, 20, 2), api.ErrNest},
		{sp(19, 30, 1), api.ErrNest},
		{sp(19, 30, 0), api.ErrNest},
		{sp(30, 31, 0), api.ErrNest},
		{sp(31, 32, 0), api.OK},
		{sp(31, 32, 1), api.ErrNest},
		{sp(12, 12, 2), api.ErrSpan}, // ahead of ErrOrder
		{sp(13, 40, -1), api.ErrSpan},
		{sp(12, 40, 7), api.ErrOrder}, // ahead of ErrNest
	} {
		l := []api.Span{sp(2, 3, 0), sp(10, 30, 0), sp(12, 18, 1), x.s}
		at := 3
		if x.why == api.OK {
			at = 0
		}
		if got, e := axis.Check(l); got != at || e != x.why {
			t.Errorf("%d: %v: %d, %d; want %d, %d", i, x.s, got, e, at, x.why)
		}
	}
}

// P9.4: the first wrong place is told, whatever is wrong further on.
func TestCheckFirst(t *testing.T) {
	order, nest, span := sp(1, 2, 0), sp(15, 40, 1), sp(0, 0, 0)
	for _, x := range []struct {
		a, b api.Span
		why  api.Errno
	}{
		{order, span, api.ErrOrder},
		{order, nest, api.ErrOrder},
		{nest, span, api.ErrNest},
		{nest, order, api.ErrNest},
		{span, nest, api.ErrSpan},
		{span, order, api.ErrSpan},
	} {
		check(t, []api.Span{sp(10, 30, 0), sp(12, 13, 1), x.a, x.b}, 2, x.why)
	}
}

// P9.4: the limits are allowed themselves.
func TestCheckLimits(t *testing.T) {
	n := api.MaxPlaced
	check(t, row(n), 0, api.OK)
	check(t, row(n+1), 0, api.ErrLong)
	l := row(n + 1)
	l[0], l[n] = api.Span{}, api.Span{}
	check(t, l, 0, api.ErrLong)
	check(t, make([]api.Span, n+1), 0, api.ErrLong)
	check(t, make([]api.Span, 5*n), 0, api.ErrLong)
	check(t, make([]api.Span, n), 0, api.ErrSpan)
	for _, s := range []struct {
		s   api.Span
		why api.Errno
	}{{sp(1, 1, 0), api.ErrSpan}, {sp(1, 2, 0), api.ErrOrder}, {sp(uint64(2*n-2), uint64(2*n), 0), api.ErrNest}} {
		l := row(n)
		l[n-1] = s.s
		check(t, l, n-1, s.why)
	}
	check(t, chain(64), 0, api.OK)
	check(t, chain(65), 64, api.ErrSpan)
	l = chain(65)
	l[64].Level = 63
	check(t, l, 64, api.ErrNest)
	for _, deep := range []int{1, 2, 10, 64} {
		l := forest(dice(uint64(deep)), n, deep)
		check(t, l, 0, api.OK)
	}
}

// P9.4: of all short lists.
func TestCheckFew(t *testing.T) {
	seen := map[api.Errno]int{}
	one := every([]uint64{0, 1, 2, 3, 4, 5}, []int{-1, 0, 1, 2})
	l := make([]api.Span, 0, 3)
	held := func() api.Errno {
		at, why := wantCheck(l)
		if i, e := axis.Check(l); i != at || e != why {
			t.Fatalf("Check of %v: %d, %d; want %d, %d", l, i, e, at, why)
		}
		seen[why]++
		return why
	}
	for _, a := range one {
		l = append(l[:0], a)
		if held() != api.OK {
			continue
		}
		for _, b := range one {
			l = append(l[:1], b)
			held()
			for _, c := range one {
				l = append(l[:2], c)
				held()
			}
		}
	}
	if len(seen) != 4 {
		t.Error(seen)
	}
}

// P9.4: of any forest, and of those in which something was changed.
func TestCheckSpoiled(t *testing.T) {
	r := dice(3)
	seen := map[api.Errno]int{}
	for range 20000 {
		l := forest(r, 1+r.IntN(40), 1+r.IntN(8))
		for range r.IntN(3) {
			s := &l[r.IntN(len(l))]
			switch r.IntN(5) {
			case 0:
				s.Begin += uint64(r.IntN(5)) - 2 // it may wrap: that can't be a span
			case 1:
				s.End += uint64(r.IntN(9)) - 4
			case 2:
				s.Level += r.IntN(3) - 1
			case 3:
				*s = l[r.IntN(len(l))]
			default:
				s.End = l[r.IntN(len(l))].End
			}
		}
		at, why := wantCheck(l)
		check(t, l, at, why)
		seen[why]++
	}
	if len(seen) != 4 {
		t.Error(seen)
	}
}

// wantCommon is the chapter's words, one after the other.
func wantCommon(l []api.Span, a, b api.Span) (api.Span, bool) {
	isOrAround := func(x, y api.Span) bool {
		return x.Begin == y.Begin && x.End == y.End || around(x, y)
	}
	some := slices.Clone(l)
	some = slices.DeleteFunc(some, func(x api.Span) bool { return !isOrAround(x, a) || !isOrAround(x, b) })
	slices.SortStableFunc(some, func(x, y api.Span) int {
		switch {
		case x.Begin > y.Begin || x.Begin == y.Begin && x.End < y.End:
			return -1
		case x.Begin == y.Begin && x.End == y.End:
			return 0
		}
		return 1
	})
	if len(some) == 0 {
		return api.Span{}, false
	}
	return some[0], true
}

func common(t *testing.T, l []api.Span, a, b api.Span) bool {
	t.Helper()
	was := slices.Clone(l)
	want, is := wantCommon(l, a, b)
	if s, ok := axis.Common(l, a, b); s != want || ok != is {
		t.Fatalf("Common of %v, %v in %v: %v, %t; want %v, %t", a, b, short(l), s, ok, want, is)
	}
	if !slices.Equal(l, was) {
		t.Fatal("Common changed its list")
	}
	return is
}

// P9.4: Common by hand.
func TestCommonByHand(t *testing.T) {
	a, b, c, d := sp(1, 10, 0), sp(2, 5, 1), sp(3, 4, 2), sp(6, 9, 1)
	l := []api.Span{a, b, c, d}
	for i, x := range []struct {
		l    []api.Span
		a, b api.Span
		want api.Span
		ok   bool
	}{
		{l, c, d, a, true},
		{l, b, c, b, true}, // one of the two is itself
		{l, c, b, b, true},
		{l, c, c, c, true},
		{l, a, c, a, true},
		{l[1:], c, d, api.Span{}, false},
		{nil, a, a, api.Span{}, false},
		{l, sp(20, 30, 0), c, api.Span{}, false},
		{l, c, sp(20, 30, 0), api.Span{}, false},
		{l, sp(7, 8, 2), sp(7, 8, 9), d, true},  // neither is in the list
		{l, sp(2, 4, 2), b, a, true},            // b shares a label with it, and is not around it
		{[]api.Span{d, c, b, a}, c, c, c, true}, // in any order
		{[]api.Span{sp(1, 12, 0), sp(2, 11, 7), sp(2, 12, 0)}, c, d, sp(2, 11, 7), true}, // what is no forest, too
		{[]api.Span{sp(2, 12, 0), sp(2, 11, 7), sp(1, 10, 0)}, c, d, sp(2, 11, 7), true},
		{[]api.Span{sp(1, 12, 4), sp(1, 12, 5), sp(1, 12, 3)}, c, d, sp(1, 12, 4), true}, // the first of several
		{[]api.Span{sp(3, 4, 8), c}, c, c, sp(3, 4, 8), true},                            // it is c by its labels
		{[]api.Span{{}}, api.Span{}, api.Span{}, api.Span{}, true},
		{[]api.Span{sp(0, math.MaxUint64, -5)}, c, sp(5, 5, 99), sp(0, math.MaxUint64, -5), true},
	} {
		if s, ok := axis.Common(x.l, x.a, x.b); s != x.want || ok != x.ok {
			t.Errorf("%d: %v, %t; want %v, %t", i, s, ok, x.want, x.ok)
		}
	}
}

// P9.4: Common of any spans, in forests and in lists that are none.
func TestCommonAny(t *testing.T) {
	r := dice(5)
	found := [2]int{}
	for i := range 20000 {
		l := forest(r, 1+r.IntN(20), 1+r.IntN(6))
		for j := range l {
			if i%2 == 0 && r.IntN(4) == 0 {
				l[j] = sp(uint64(r.IntN(12)), uint64(r.IntN(60)), r.IntN(4)-1)
			}
		}
		if i%3 == 0 {
			r.Shuffle(len(l), func(i, j int) { l[i], l[j] = l[j], l[i] })
		}
		a, b := l[r.IntN(len(l))], l[r.IntN(len(l))]
		if r.IntN(4) == 0 {
			a.Level++
		}
		if common(t, l, a, b) {
			found[0]++
		} else {
			found[1]++
		}
	}
	if found[0] == 0 || found[1] == 0 {
		t.Error(found)
	}
	all := every([]uint64{0, 1, 2, math.MaxUint64}, []int{0, 1})
	for _, a := range all {
		for _, b := range all {
			common(t, all, a, b)
		}
	}
}

// P9.4: Common has no limit of its own.
func TestCommonLong(t *testing.T) {
	l := row(3 * api.MaxPlaced)
	in := sp(50, 60, 2)
	l = append(l, sp(40, 70, 1), sp(41, 71, 1))
	if s, ok := axis.Common(l, in, in); s != sp(41, 71, 1) || !ok {
		t.Error(s, ok)
	}
}
