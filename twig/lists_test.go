package twig_test

import (
	"errors"
	"math"
	"slices"
	"testing"

	"espalier/api"
	"espalier/twig"
)

// refused asks all calls that take lists, of lists that can't be; of one list Lists, too.
func refused(t *testing.T, x api.Twig, lists [][]api.Placed, why api.Errno) {
	t.Helper()
	for _, most := range []int{9, 0, -1} {
		if g := ask(t, x, lists, most, why, why); !g.equal(answer{}) {
			t.Errorf("%v: %v beside an error", short(lists), g)
		}
	}
}

// alone asks for one list: by a pattern of one node, and by Lists.
func alone(t *testing.T, l []api.Placed, why api.Errno) {
	t.Helper()
	if got := wrongLists([][]api.Placed{l}); got != why {
		t.Errorf("%v: by the words %d; want %d", short([][]api.Placed{l}), got, why)
	}
	asked := 0
	out, e := twig.Lists(on(), l, func(api.Handle) string { asked++; return "" })
	if e != why {
		t.Errorf("Lists of %v: %d; want %d", short([][]api.Placed{l}), e, why)
	}
	if why == api.OK {
		held(t, on(), [][]api.Placed{l})
		if !slices.EqualFunc(out, [][]api.Placed{l}, slices.Equal) || asked != len(l) {
			t.Error(out, asked)
		}
		return
	}
	if out != nil || asked > 0 {
		t.Error("beside an error:", out, asked)
	}
	refused(t, on(), [][]api.Placed{l}, why)
}

// P12.2, P12.3, P12.4: spans that can't be, at any place.
func TestSpans(t *testing.T) {
	for _, x := range []struct {
		s   api.Placed
		why api.Errno
	}{
		{p(1, 1, 2, 0), api.OK},
		{p(1, 1, 2, 63), api.OK},
		{p(1, 1<<62-2, 1<<62-1, 0), api.OK},
		{p(1, 0, 2, 0), api.ErrSpan},
		{p(1, 2, 2, 0), api.ErrSpan},
		{p(1, 3, 2, 0), api.ErrSpan},
		{p(1, 1, 1<<62, 0), api.ErrSpan},
		{p(1, 1, math.MaxUint64, 0), api.ErrSpan},
		{p(1, math.MaxUint64-1, math.MaxUint64, 0), api.ErrSpan},
		{p(1, 1, 2, -1), api.ErrSpan},
		{p(1, 1, 2, 64), api.ErrSpan},
		{p(1, 1, 2, math.MaxInt), api.ErrSpan},
		{p(1, 1, 2, math.MinInt), api.ErrSpan},
		{api.Placed{}, api.ErrSpan},
	} {
		alone(t, []api.Placed{x.s}, x.why)
		if x.why != api.OK {
			alone(t, append(row(5, 1, 3), x.s), x.why)
			for i := range 3 {
				lists := times(3, row(2, 1, 3))
				lists[i] = append(row(5, 1, 3), x.s)
				refused(t, on(on(), on()), lists, x.why)
			}
		}
	}
}

// P12.2, P12.3, P12.4: how two spans may lie, in one list or in two.
func TestCross(t *testing.T) {
	base := p(1, 10, 20, 3)
	for _, x := range []struct {
		s         api.Placed
		one, both api.Errno
	}{
		{p(2, 12, 18, 4), api.OK, api.OK},
		{p(2, 12, 18, 9), api.OK, api.OK}, // levels may be any, but of one span
		{p(2, 12, 18, 3), api.OK, api.OK},
		{p(2, 11, 19, 0), api.OK, api.OK},
		{p(2, 11, 20, 4), api.ErrNest, api.ErrNest},
		{p(2, 11, 21, 4), api.ErrNest, api.ErrNest},
		{p(2, 19, 20, 4), api.ErrNest, api.ErrNest},
		{p(2, 20, 21, 3), api.ErrNest, api.ErrNest},
		{p(2, 21, 22, 3), api.OK, api.OK},
		{p(2, 10, 20, 3), api.ErrOrder, api.OK},
		{p(2, 10, 20, 2), api.ErrOrder, api.ErrNest},
		{p(2, 10, 20, 4), api.ErrOrder, api.ErrNest},
		{p(2, 10, 19, 3), api.ErrOrder, api.ErrNest},
		{p(2, 10, 21, 3), api.ErrOrder, api.ErrNest},
		{p(2, 10, 11, 4), api.ErrOrder, api.ErrNest},
	} {
		alone(t, []api.Placed{base, x.s}, x.one)
		for _, l := range [][][]api.Placed{{{base}, {x.s}}, {{x.s}, {base}}, {{base}, nil, {x.s}}, {{x.s}, row(2, 100, 0), {base}}} {
			pattern := deep(len(l))
			if wrong(pattern, l) != x.both {
				t.Error(x)
			}
			held(t, pattern, l)
		}
	}
}

// P12.2, P12.3: what crosses need not stand side by side: others lie between, that have ended or not.
func TestCrossFar(t *testing.T) {
	for i, x := range [][][]api.Placed{
		{{p(1, 1, 50, 0), p(2, 2, 3, 1), p(3, 4, 5, 1)}, {p(4, 6, 7, 1)}, {p(5, 40, 60, 1)}},
		{{p(1, 1, 50, 0)}, {p(4, 6, 7, 1)}, {p(5, 8, 50, 1)}},
		{{p(1, 1, 50, 0), p(2, 10, 40, 1), p(3, 12, 39, 2)}, {p(4, 10, 40, 2)}, nil},
		{{p(1, 1, 50, 0), p(2, 10, 40, 1)}, {p(4, 10, 40, 1)}, {p(5, 12, 40, 2)}},
		{{p(1, 10, 40, 1)}, {p(4, 10, 40, 1), p(5, 40, 41, 2)}, {p(1, 10, 40, 1)}},
		{{p(1, 1, 2, 0), p(2, 3, 100, 0)}, {p(3, 1, 2, 0), p(4, 5, 6, 1)}, {p(5, 7, 101, 1)}},
	} {
		if wrongLists(x) != api.ErrNest {
			t.Error(i)
		}
		for _, n := range [][3]int{{0, 1, 2}, {0, 2, 1}, {1, 0, 2}, {1, 2, 0}, {2, 0, 1}, {2, 1, 0}} {
			lists := [][]api.Placed{x[n[0]], x[n[1]], x[n[2]]}
			refused(t, on(on(), on()), lists, api.ErrNest)
			refused(t, on(under(on())), lists, api.ErrNest)
		}
	}
}

// P12.2, P12.3: which error comes first.
func TestFirstError(t *testing.T) {
	fine := row(3, 100, 0)
	span, order, nest := []api.Placed{p(1, 2, 2, 0)}, []api.Placed{p(1, 5, 6, 0), p(2, 5, 6, 0)}, []api.Placed{p(1, 5, 8, 0), p(2, 6, 9, 0)}
	long := make([]api.Placed, api.MaxNodes+1)
	spanOrder := []api.Placed{p(1, 5, 6, 0), p(2, 7, 7, 0), p(3, 5, 6, 0)}
	orderSpan := []api.Placed{p(1, 5, 6, 0), p(2, 5, 6, 0), p(3, 7, 7, 0)}
	for i, x := range []struct {
		lists [][]api.Placed
		why   api.Errno
	}{
		{nil, api.ErrArg},
		{[][]api.Placed{fine}, api.ErrArg},
		{[][]api.Placed{fine, fine}, api.ErrArg},
		{[][]api.Placed{fine, fine, fine}, api.OK},
		{[][]api.Placed{fine, fine, fine, fine}, api.ErrArg},
		{[][]api.Placed{fine, fine, fine, nil}, api.ErrArg},
		{[][]api.Placed{nil, nil, nil}, api.OK},
		{[][]api.Placed{long, span}, api.ErrArg}, // how many there are comes first
		{[][]api.Placed{nest, span, order, long}, api.ErrArg},
		{[][]api.Placed{long, span, order}, api.ErrLong}, // list by list
		{[][]api.Placed{span, long, order}, api.ErrSpan},
		{[][]api.Placed{order, span, long}, api.ErrOrder},
		{[][]api.Placed{fine, long, order}, api.ErrLong},
		{[][]api.Placed{fine, order, long}, api.ErrOrder},
		{[][]api.Placed{fine, fine, long}, api.ErrLong},
		{[][]api.Placed{nest, fine, span}, api.ErrSpan}, // what crosses comes last
		{[][]api.Placed{nest, fine, order}, api.ErrOrder},
		{[][]api.Placed{nest, long, fine}, api.ErrLong},
		{[][]api.Placed{nest, fine, fine}, api.ErrNest},
		{[][]api.Placed{fine, nest, fine}, api.ErrNest},
		{[][]api.Placed{fine, fine, nest}, api.ErrNest},
		{[][]api.Placed{spanOrder, fine, fine}, api.ErrSpan}, // the first wrong node tells
		{[][]api.Placed{orderSpan, fine, fine}, api.ErrOrder},
		{[][]api.Placed{fine, fine, {p(1, 9, 10, 0), p(2, 9, 9, 0)}}, api.ErrSpan}, // of one node: ErrSpan ahead of ErrOrder
	} {
		for _, pattern := range []api.Twig{on(on(), on()), on(on(on())), on(under(), under())} {
			if got := wrong(pattern, x.lists); got != x.why {
				t.Errorf("%d: by the words %d; want %d", i, got, x.why)
			}
			if x.why != api.OK {
				refused(t, pattern, x.lists, x.why)
			} else {
				held(t, pattern, x.lists)
			}
		}
	}
	// Paths: behind Check's, ahead of the lists'; most behind these.
	branched := on(on(), on())
	if l, e := twig.Paths(named("1", branched), nil, -1); l != nil || e != api.ErrName {
		t.Error(l, e)
	}
	if l, e := twig.Paths(on(branched), nil, -1); l != nil || e != api.ErrTwig {
		t.Error(l, e)
	}
	for _, most := range []int{-1, math.MinInt} {
		if l, e := twig.Find(branched, times(3, chain(300, 0)), most); l != nil || e != api.ErrArg {
			t.Error(l, e)
		}
		if l, e := twig.Paths(on(on()), times(2, chain(300, 0)), most); l != nil || e != api.ErrArg {
			t.Error(l, e)
		}
		if l, e := twig.Find(on(), [][]api.Placed{nest}, most); l != nil || e != api.ErrNest {
			t.Error(l, e)
		}
	}
}

// P12.2, P12.3, P12.4: as long as lists may be, and one more.
func TestLong(t *testing.T) {
	n := api.MaxNodes
	full := row(n, 1, 0)
	alone(t, full, api.OK)
	alone(t, row(n+1, 1, 0), api.ErrLong)
	alone(t, make([]api.Placed, n+1), api.ErrLong)
	alone(t, make([]api.Placed, n), api.ErrSpan)
	for _, x := range []struct {
		last api.Placed
		why  api.Errno
	}{{p(1, 5, 5, 0), api.ErrSpan}, {p(1, 1, 2, 0), api.ErrOrder}, {p(1, uint64(2*n-2), uint64(2*n), 0), api.ErrNest}} {
		l := row(n, 1, 0)
		l[n-1] = x.last
		alone(t, l, x.why)
		refused(t, on(on(), under()), [][]api.Placed{full, full, l}, x.why)
	}
	if g := ask(t, on(on()), times(2, full), 0, api.OK, api.OK); g.count != 0 || len(g.tops) != 0 {
		t.Error(g)
	}
}

// P12.2, P12.3: of lists out of a forest in which something was changed.
func TestSpoiled(t *testing.T) {
	r := dice(2)
	seen := map[api.Errno]int{}
	for range 12000 {
		l := forest(r, 2+r.IntN(14), 1+r.IntN(5))
		x := anyTwig(r, 1+r.IntN(4))
		lists := anyLists(r, x, l)
		for range r.IntN(3) {
			if list := lists[r.IntN(len(lists))]; len(list) > 0 {
				change(r.IntN(5), &list[r.IntN(len(list))].Span, l[r.IntN(len(l))].Span, uint64(r.IntN(9))-4)
			}
		}
		if r.IntN(40) == 0 {
			lists = lists[:len(lists)-1]
		}
		held(t, x, lists)
		seen[wrong(x, lists)]++
	}
	if len(seen) != 5 || seen[api.OK] < 1000 || seen[api.ErrNest] < 1000 {
		t.Error(seen)
	}
}

// change does something to a span, by another one and a small number.
func change(how int, s *api.Span, other api.Span, by uint64) {
	switch how {
	case 0:
		s.Begin += by
	case 1:
		s.End += by
	case 2:
		s.Level += int(by)
	case 3:
		*s = other
	default:
		s.End = other.End
	}
}

// P12.4: of each of the pattern's nodes those of its name, or all.
func TestLists(t *testing.T) {
	nodes := []api.Placed{p(1, 1, 20, 0), p(2, 2, 3, 1), p(3, 4, 9, 1), p(4, 5, 6, 2), p(5, 7, 8, 2), p(6, 30, 31, 0)}
	names := map[api.Handle]string{1: "a", 2: "b", 3: "a", 4: "b", 5: "", 6: "1"}
	pick := func(which ...int) []api.Placed {
		var l []api.Placed
		for _, i := range which {
			l = append(l, nodes[i-1])
		}
		return l
	}
	for i, x := range []struct {
		t    api.Twig
		want [][]api.Placed
	}{
		{on(), [][]api.Placed{nodes}},
		{named("a", on()), [][]api.Placed{pick(1, 3)}},
		{named("b", under()), [][]api.Placed{pick(2, 4)}},
		{named("c", on()), [][]api.Placed{nil}},
		{named("A", on()), [][]api.Placed{nil}},
		{named("a", on(named("b", on()), on(named("a", under())), named("c", on()))), [][]api.Placed{pick(1, 3), pick(2, 4), nodes, pick(1, 3), nil}},
	} {
		var asked []api.Handle
		got, e := twig.Lists(x.t, nodes, func(n api.Handle) string {
			asked = append(asked, n)
			return names[n]
		})
		if e != api.OK || !slices.EqualFunc(got, x.want, slices.Equal) {
			t.Errorf("%d: %v, %d; want %v", i, got, e, x.want)
		}
		if !slices.Equal(asked, []api.Handle{1, 2, 3, 4, 5, 6}) {
			t.Errorf("%d: asked for %v", i, asked)
		}
		if l, e := twig.Lists(x.t, nil, func(api.Handle) string { panic(1) }); e != api.OK || len(l) != len(x.want) {
			t.Errorf("%d: of no nodes: %v, %d", i, l, e)
		}
	}
}

// P12.4: name is nil ahead of what is wrong with the nodes; a name that panics ends it.
func TestListsRefused(t *testing.T) {
	nodes := row(6, 1, 0)
	for _, l := range [][]api.Placed{nil, nodes, make([]api.Placed, 1), make([]api.Placed, api.MaxNodes+1)} {
		if out, e := twig.Lists(on(on()), l, nil); out != nil || e != api.ErrArg {
			t.Error(out, e)
		}
	}
	for i, f := range []func(){
		func() { panic("text") }, func() { panic(nil) }, func() { panic(errors.New("e")) }, func() { panic(api.OK) },
		func() { var l []int; l[len(nodes)]++ }, func() { var n *api.Placed; n.Node++ },
	} {
		for at := range nodes {
			asked := 0
			out, e := twig.Lists(on(on()), nodes, func(api.Handle) string {
				if asked++; asked == at+1 {
					f()
				}
				return "a"
			})
			if out != nil || e != api.ErrPanic || asked != at+1 {
				t.Errorf("%d, %d: %v, %d, asked %d times", i, at, out, e, asked)
			}
		}
	}
}

// P12.4, Rules, Memory: a name function that writes into what was handed in changes nothing of the answer.
func TestListsWritten(t *testing.T) {
	nodes := row(6, 1, 0)
	was := slices.Clone(nodes)
	pattern := named("a", on(named("a", on()), on()))
	var asked []api.Handle
	got, e := twig.Lists(pattern, nodes, func(n api.Handle) string {
		asked = append(asked, n)
		clear(nodes)
		pattern.Kids[0].Name, pattern.Kids[1].Name = "b", "b"
		return "a"
	})
	if e != api.OK || !slices.EqualFunc(got, times(3, was), slices.Equal) || len(asked) != 6 || asked[5] != was[5].Node {
		t.Error(got, e, asked)
	}
}
