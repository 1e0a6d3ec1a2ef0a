package join_test

import (
	"math"
	"slices"
	"testing"

	"espalier/api"
)

// refused asks all calls, direct or not, of lists that can't be joined (or can, where there are few pairs).
func refused(t *testing.T, a, d []api.Placed, why api.Errno) {
	t.Helper()
	if why == api.OK {
		ask(t, a, d, false, api.OK, api.OK)
		ask(t, a, d, true, api.OK, api.OK)
		return
	}
	for _, direct := range []bool{false, true} {
		if g := ask(t, a, d, direct, why, why); !g.equal(answer{}) {
			t.Errorf("%v, %v: %v beside an error", short(a), short(d), g)
		}
	}
}

// P11.1, P11.2, P11.3: each error, and which one comes first.
func TestRefused(t *testing.T) {
	span, order, nest := p(3, 9, 9, 0), p(3, 5, 6, 0), p(3, 6, 12, 0)
	fine := []api.Placed{p(1, 1, 4, 0), p(2, 5, 10, 0)}
	with := func(l ...api.Placed) []api.Placed { return append(slices.Clone(fine), l...) }
	elsewhere := []api.Placed{p(7, 100, 200, 0), p(8, 110, 120, 1)}
	for i, x := range []struct {
		a, d []api.Placed
		why  api.Errno
	}{
		{fine, elsewhere, api.OK},
		{[]api.Placed{p(1, 1, 5, 0)}, []api.Placed{p(2, 3, 8, 0)}, api.ErrNest}, // the document's second example
		{[]api.Placed{p(1, 3, 8, 0)}, []api.Placed{p(2, 1, 5, 0)}, api.ErrNest},
		{with(span), elsewhere, api.ErrSpan},
		{elsewhere, with(span), api.ErrSpan},
		{with(order), elsewhere, api.ErrOrder},
		{elsewhere, with(order), api.ErrOrder},
		{with(nest), elsewhere, api.ErrNest}, // within one list
		{elsewhere, with(nest), api.ErrNest},
		{fine, []api.Placed{nest}, api.ErrNest}, // of both
		{[]api.Placed{nest}, fine, api.ErrNest},
		{with(span, order), elsewhere, api.ErrSpan}, // the first wrong node tells
		{with(order, span), elsewhere, api.ErrOrder},
		{elsewhere, with(span, order), api.ErrSpan},
		{elsewhere, with(order, span), api.ErrOrder},
		{with(order), with(span), api.ErrOrder}, // a ahead of d
		{with(span), with(order), api.ErrSpan},
		{with(nest), with(order), api.ErrOrder}, // both ahead of what crosses
		{with(nest), with(span), api.ErrSpan},
		{with(nest, order), elsewhere, api.ErrOrder},
		{with(nest, span), elsewhere, api.ErrSpan},
		{elsewhere, with(nest, order), api.ErrOrder},
		{elsewhere, with(nest, span), api.ErrSpan},
		{with(p(3, 5, 5, 0)), elsewhere, api.ErrSpan}, // of one node: ErrSpan ahead of ErrOrder
		{with(p(3, 2, 3, 64)), elsewhere, api.ErrSpan},
		{with(p(3, 4, 20, 0)), elsewhere, api.ErrOrder},
		{[]api.Placed{span}, nil, api.ErrSpan}, // with nothing to join
		{nil, []api.Placed{span}, api.ErrSpan},
		{with(nest), nil, api.ErrNest},
		{nil, with(nest), api.ErrNest},
		{with(order), nil, api.ErrOrder},
		{nil, with(order), api.ErrOrder},
	} {
		if got := wantError(x.a, x.d); got != x.why {
			t.Errorf("%d: by the words %d; want %d", i, got, x.why)
		}
		refused(t, x.a, x.d, x.why)
	}
}

// P11.1, P11.2, P11.3: spans that can't be, at any place of either list.
func TestSpans(t *testing.T) {
	for i, x := range []struct {
		s   api.Placed
		why api.Errno
	}{
		{p(1, 1, 2, 0), api.OK},
		{p(1, 1, 2, 63), api.OK},
		{p(1, 1<<62-2, 1<<62-1, 0), api.OK},
		{p(1, 0, 2, 0), api.ErrSpan},
		{p(1, 2, 2, 0), api.ErrSpan},
		{p(1, 3, 2, 0), api.ErrSpan},
		{p(1, 1, 1<<62, 0), api.ErrSpan},
		{p(1, 1, math.MaxUint64, 0), api.ErrSpan},
		{p(1, math.MaxUint64-1, math.MaxUint64, 0), api.ErrSpan},
		{p(1, 1, 2, -1), api.ErrSpan},
		{p(1, 1, 2, 64), api.ErrSpan},
		{p(1, 1, 2, math.MaxInt), api.ErrSpan},
		{p(1, 1, 2, math.MinInt), api.ErrSpan},
		{api.Placed{}, api.ErrSpan},
	} {
		l := []api.Placed{x.s}
		if wantError(l, nil) != x.why {
			t.Error(i)
		}
		refused(t, l, nil, x.why)
		refused(t, nil, l, x.why)
		refused(t, l, l, x.why)
		if x.why != api.OK {
			refused(t, append(row(5, 1, 3), x.s), row(2, 1, 3), x.why)
			refused(t, row(2, 1, 3), append(row(5, 1, 3), x.s), x.why)
		}
	}
}

// P11.1, P11.2, P11.3: how two spans may lie, in one list or in two.
func TestCross(t *testing.T) {
	base := p(1, 10, 20, 3)
	for i, x := range []struct {
		s    api.Placed
		one  api.Errno // of both in one list, in order
		both api.Errno // of one in each
	}{
		{p(2, 12, 18, 4), api.OK, api.OK},
		{p(2, 12, 18, 9), api.OK, api.OK}, // levels may be any, but of one span
		{p(2, 12, 18, 0), api.OK, api.OK},
		{p(2, 12, 18, 3), api.OK, api.OK},
		{p(2, 11, 19, 4), api.OK, api.OK},
		{p(2, 11, 20, 4), api.ErrNest, api.ErrNest},
		{p(2, 11, 21, 4), api.ErrNest, api.ErrNest},
		{p(2, 19, 20, 4), api.ErrNest, api.ErrNest},
		{p(2, 20, 21, 3), api.ErrNest, api.ErrNest},
		{p(2, 21, 22, 3), api.OK, api.OK},
		{p(2, 10, 20, 3), api.ErrOrder, api.OK},
		{p(2, 10, 20, 2), api.ErrOrder, api.ErrNest},
		{p(2, 10, 20, 4), api.ErrOrder, api.ErrNest},
		{p(2, 10, 19, 3), api.ErrOrder, api.ErrNest},
		{p(2, 10, 21, 3), api.ErrOrder, api.ErrNest},
		{p(2, 10, 11, 4), api.ErrOrder, api.ErrNest},
	} {
		l := []api.Placed{base, x.s}
		if wantError(l, nil) != x.one || wantError(l[:1], l[1:]) != x.both {
			t.Error(i)
		}
		refused(t, l, nil, x.one)
		refused(t, nil, l, x.one)
		refused(t, l[:1], l[1:], x.both)
		refused(t, l[1:], l[:1], x.both)
	}
}

// P11.1, P11.2, P11.3: what crosses need not stand side by side: others lie between, that have ended or not.
func TestCrossFar(t *testing.T) {
	for i, x := range []struct {
		a, d []api.Placed
	}{
		{[]api.Placed{p(1, 1, 50, 0), p(2, 2, 3, 1), p(3, 4, 5, 1)}, []api.Placed{p(4, 6, 7, 1), p(5, 40, 60, 1)}},
		{[]api.Placed{p(1, 1, 50, 0)}, []api.Placed{p(4, 6, 7, 1), p(5, 8, 50, 1)}},
		{[]api.Placed{p(1, 1, 50, 0), p(2, 10, 40, 1), p(3, 12, 39, 2)}, []api.Placed{p(4, 10, 40, 2)}},
		{[]api.Placed{p(1, 1, 50, 0), p(2, 10, 40, 1)}, []api.Placed{p(4, 10, 40, 1), p(5, 12, 40, 2)}},
		{[]api.Placed{p(1, 10, 40, 1)}, []api.Placed{p(4, 10, 40, 1), p(5, 40, 41, 2)}},
		{[]api.Placed{p(4, 10, 40, 1), p(5, 39, 41, 2)}, []api.Placed{p(1, 10, 40, 1)}},
		{[]api.Placed{p(1, 1, 2, 0), p(2, 3, 100, 0)}, []api.Placed{p(3, 1, 2, 0), p(4, 5, 6, 1), p(5, 7, 101, 1)}},
	} {
		if wantError(x.a, x.d) != api.ErrNest {
			t.Error(i)
		}
		refused(t, x.a, x.d, api.ErrNest)
		refused(t, x.d, x.a, api.ErrNest)
	}
}

// P11.1, P11.2, P11.3: as long as lists may be, and one more; ErrLong is ahead of all.
func TestLong(t *testing.T) {
	n := api.MaxPlaced
	full, over := row(n, 1, 0), row(n+1, 1, 0)
	refused(t, full, full, api.OK)
	refused(t, over, nil, api.ErrLong)
	refused(t, nil, over, api.ErrLong)
	refused(t, over, over, api.ErrLong)
	refused(t, make([]api.Placed, n+1), nil, api.ErrLong)
	refused(t, nil, make([]api.Placed, n+1), api.ErrLong)
	refused(t, make([]api.Placed, n), over, api.ErrLong) // ahead of what is wrong in a
	refused(t, over, make([]api.Placed, n), api.ErrLong)
	refused(t, make([]api.Placed, n), full, api.ErrSpan)
	refused(t, full, make([]api.Placed, n), api.ErrSpan)
	for _, x := range []struct {
		last api.Placed
		why  api.Errno
	}{{p(1, 5, 5, 0), api.ErrSpan}, {p(1, 1, 2, 0), api.ErrOrder}, {p(1, uint64(2*n-2), uint64(2*n), 0), api.ErrNest}} {
		l := row(n, 1, 0)
		l[n-1] = x.last
		refused(t, l, full, x.why)
		refused(t, full, l, x.why)
	}
	deep := chain(n, 0)
	if g := ask(t, deep, deep, false, api.OK, api.ErrLong); g.count[0] != n-1 || g.count[n-1] != 0 || len(g.without) != 1 {
		t.Error(g.count[0], g.count[n-1])
	}
	if g := ask(t, deep, deep, true, api.OK, api.OK); len(g.inner) != 0 || len(g.nearest) != n-1 {
		t.Error(len(g.inner), len(g.nearest))
	}
}

// P11.1, P11.2, P11.3: of all short lists.
func TestFew(t *testing.T) {
	var one []api.Placed
	for b := range uint64(5) {
		for e := range uint64(6) {
			for v := -1; v < 2; v++ {
				one = append(one, p(api.Handle(len(one)+1), b, e, v))
			}
		}
	}
	seen := map[api.Errno]int{}
	lists := [][]api.Placed{nil}
	for _, x := range one {
		lists = append(lists, []api.Placed{x})
		for _, y := range one {
			if possible(x.Span) && y.Span.Begin+1 >= x.Span.Begin {
				lists = append(lists, []api.Placed{x, y})
			}
		}
	}
	r := dice(4)
	for _, a := range lists {
		for range 20 {
			d := lists[r.IntN(len(lists))]
			for _, direct := range []bool{false, true} {
				seen[held(t, a, d, direct).why]++
			}
		}
	}
	if len(seen) != 4 {
		t.Error(seen)
	}
}

// P11.1, P11.2, P11.3: of lists out of a forest in which something was changed.
func TestSpoiled(t *testing.T) {
	r := dice(5)
	seen := map[api.Errno]int{}
	for range 12000 {
		l := forest(r, 2+r.IntN(30), 1+r.IntN(8))
		a, d := some(r, l, 1+r.IntN(3)), some(r, l, 1+r.IntN(3))
		for range r.IntN(3) {
			change := a
			if r.IntN(2) == 0 {
				change = d
			}
			if len(change) == 0 {
				continue
			}
			s := &change[r.IntN(len(change))].Span
			switch r.IntN(5) {
			case 0:
				s.Begin += uint64(r.IntN(5)) - 2
			case 1:
				s.End += uint64(r.IntN(9)) - 4
			case 2:
				s.Level += r.IntN(3) - 1
			case 3:
				*s = l[r.IntN(len(l))].Span
			default:
				s.End = l[r.IntN(len(l))].Span.End
			}
		}
		for _, direct := range []bool{false, true} {
			seen[held(t, a, d, direct).why]++
		}
	}
	if len(seen) != 4 || seen[api.OK] < 1000 || seen[api.ErrNest] < 1000 {
		t.Error(seen)
	}
}
