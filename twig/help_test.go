package twig_test

import (
	"math/rand/v2"
	"slices"
	"testing"

	"espalier/api"
	"espalier/twig"
)

func p(n api.Handle, begin, end uint64, level int) api.Placed {
	return api.Placed{Node: n, Span: api.Span{Begin: begin, End: end, Level: level}}
}

func dice(seed uint64) *rand.Rand { return rand.New(rand.NewPCG(seed, 12)) }

// on, under: a pattern of any name, anywhere or right under the one above it.
func on(kids ...api.Twig) api.Twig    { return api.Twig{Kids: kids} }
func under(kids ...api.Twig) api.Twig { return api.Twig{Direct: true, Kids: kids} }

// named gives a pattern a name.
func named(name string, t api.Twig) api.Twig {
	t.Name = name
	return t
}

// knot is a node of a pattern, in their order, and the number of the one above it.
type knot struct {
	t     api.Twig
	above int
}

func knots(t api.Twig) []knot {
	l := []knot{{t, -1}}
	for _, k := range t.Kids {
		first := len(l)
		for _, x := range knots(k) {
			x.above += first
			if x.above < first {
				x.above = 0
			}
			l = append(l, x)
		}
	}
	return l
}

// possible, around, cross: the chapters' words.
func possible(s api.Span) bool {
	return s.Begin >= 1 && s.End > s.Begin && s.End <= 1<<62-1 && s.Level >= 0 && s.Level <= 63
}

func around(a, b api.Span) bool { return a.Begin < b.Begin && a.End > b.End }

func cross(x, y api.Span) bool {
	if x.Begin == y.Begin && x.End == y.End {
		return x.Level != y.Level
	}
	apart := x.End < y.Begin || y.End < x.Begin
	return !apart && !around(x, y) && !around(y, x)
}

// wrongLists is why lists can't be, each node held against each.
func wrongLists(lists [][]api.Placed) api.Errno {
	var all []api.Placed
	for _, l := range lists {
		if len(l) > 4096 {
			return 2
		}
		for i, x := range l {
			if !possible(x.Span) {
				return 110
			}
			if i > 0 && l[i-1].Span.Begin >= x.Span.Begin {
				return 71
			}
		}
		all = append(all, l...)
	}
	for i, x := range all {
		for _, y := range all[:i] {
			if cross(x.Span, y.Span) {
				return 111
			}
		}
	}
	return 0
}

// wrong is why a pattern of names that can be has no such lists.
func wrong(t api.Twig, lists [][]api.Placed) api.Errno {
	n := len(knots(t))
	switch {
	case n > 16:
		return 120
	case n != len(lists):
		return 1
	}
	return wrongLists(lists)
}

// byTrying is all matches, as places in the lists, by trying all nodes of all lists.
func byTrying(t api.Twig, lists [][]api.Placed) [][]int {
	ks := knots(t)
	var out [][]int
	at := make([]int, len(ks))
	var try func(i int)
	try = func(i int) {
		if i == len(ks) {
			out = append(out, slices.Clone(at))
			return
		}
		for k, x := range lists[i] {
			if i > 0 {
				s := lists[ks[i].above][at[ks[i].above]].Span
				if !around(s, x.Span) || ks[i].t.Direct && s.Level+1 != x.Span.Level {
					continue
				}
			}
			at[i] = k
			try(i + 1)
		}
	}
	try(0)
	return out
}

// asHandles is matches as the handles of their nodes.
func asHandles(lists [][]api.Placed, found [][]int) [][]api.Handle {
	var out [][]api.Handle
	for _, m := range found {
		var l []api.Handle
		for i, k := range m {
			l = append(l, lists[i][k].Node)
		}
		out = append(out, l)
	}
	return out
}

// usedIn is, of each list, the places that stand in some match.
func usedIn(lists [][]api.Placed, found [][]int) [][]int {
	out := make([][]int, len(lists))
	for i := range lists {
		for _, m := range found {
			out[i] = append(out[i], m[i])
		}
		slices.Sort(out[i])
		out[i] = slices.Compact(out[i])
	}
	return out
}

// answer is what all calls answer of a pattern and its lists.
type answer struct {
	find, used [][]api.Handle
	count      uint64
	tops       []api.Handle
}

func same(a, b [][]api.Handle) bool { return slices.EqualFunc(a, b, slices.Equal) }

func (g answer) equal(w answer) bool {
	return same(g.find, w.find) && same(g.used, w.used) && g.count == w.count && slices.Equal(g.tops, w.tops)
}

// ask is what the program answers; each call's error is held against what it is to be: why, but those of Find, and of Count, if it is told.
func ask(t *testing.T, x api.Twig, lists [][]api.Placed, most int, why, whyFind api.Errno, whyCount ...api.Errno) answer {
	t.Helper()
	var g answer
	var e [4]api.Errno
	g.find, e[0] = twig.Find(x, lists, most)
	g.count, e[1] = twig.Count(x, lists)
	g.tops, e[2] = twig.Tops(x, lists)
	g.used, e[3] = twig.Used(x, lists)
	want := [4]api.Errno{whyFind, why, why, why}
	copy(want[1:2], whyCount)
	if e != want {
		t.Fatalf("%v, %v: errors %d; want %d", x, short(lists), e, want)
	}
	paths(t, x, lists, most, g.find, whyFind)
	return g
}

// paths holds Paths against Find.
func paths(t *testing.T, x api.Twig, lists [][]api.Placed, most int, find [][]api.Handle, why api.Errno) {
	t.Helper()
	for _, k := range knots(x) {
		if len(k.t.Kids) > 1 {
			find, why = nil, api.ErrTwig
		}
	}
	if l, e := twig.Paths(x, lists, most); !same(l, find) || e != why {
		t.Fatalf("Paths of %v, %v: %v, %d; want %v, %d", x, short(lists), l, e, find, why)
	}
}

// held holds all calls against what is found by trying, and looks that the lists are let be.
func held(t *testing.T, x api.Twig, lists [][]api.Placed) answer {
	t.Helper()
	was := cloned(lists)
	if e := wrong(x, lists); e != 0 {
		g := ask(t, x, lists, 1<<20, e, e)
		if !g.equal(answer{}) {
			t.Fatalf("%v, %v: %v beside an error", x, short(lists), g)
		}
		return g
	}
	found := byTrying(x, lists)
	w := answer{find: asHandles(lists, found), count: uint64(len(found))}
	for i, l := range usedIn(lists, found) {
		var u []api.Handle
		for _, k := range l {
			u = append(u, lists[i][k].Node)
		}
		w.used = append(w.used, u)
	}
	w.tops = w.used[0]
	why := api.OK
	if len(found) > 16384 {
		w.find, why = nil, api.ErrLong
	}
	g := ask(t, x, lists, 1<<20, api.OK, why)
	if !g.equal(w) {
		t.Fatalf("%v, %v:\n%v\nwant\n%v", x, short(lists), g, w)
	}
	if !slices.EqualFunc(lists, was, slices.Equal) {
		t.Fatal("a list was changed")
	}
	return g
}

func cloned(lists [][]api.Placed) [][]api.Placed {
	var out [][]api.Placed
	for _, l := range lists {
		out = append(out, slices.Clone(l))
	}
	return out
}

func short(lists [][]api.Placed) any {
	n := 0
	for _, l := range lists {
		n += len(l)
	}
	if n > 60 {
		return n
	}
	return lists
}

// times is a list as the list of each of n places.
func times(n int, l []api.Placed) [][]api.Placed {
	var out [][]api.Placed
	for range n {
		out = append(out, l)
	}
	return out
}

// chain is n nodes, one in the other, all of a level.
func chain(n, level int) []api.Placed {
	var l []api.Placed
	for i := range n {
		l = append(l, p(api.Handle(i+1), uint64(1+i), 1<<40-uint64(i), level))
	}
	return l
}

// row is n nodes, one behind the other, from a label on, all of a level.
func row(n int, from uint64, level int) []api.Placed {
	var l []api.Placed
	for i := range n {
		begin := from + uint64(2*i)
		l = append(l, p(api.Handle(begin), begin, begin+1, level))
	}
	return l
}

// forest is n nodes, each somewhere in or behind the one ahead, with gaps between the labels.
func forest(r *rand.Rand, n, deep int) []api.Placed {
	var l []api.Placed
	var open []int
	last := uint64(0)
	next := func() uint64 {
		last += 1 + uint64(r.IntN(3))
		return last
	}
	for i := range n {
		for len(open) > 0 && (len(open) == deep || r.IntN(3) == 0) {
			l[open[len(open)-1]].Span.End = next()
			open = open[:len(open)-1]
		}
		l = append(l, p(api.Handle(1000+i), next(), 0, len(open)))
		open = append(open, i)
	}
	for _, i := range slices.Backward(open) {
		l[i].Span.End = next()
	}
	return l
}

// some is those of a list on which a die falls: about one of each in so many.
func some(r *rand.Rand, l []api.Placed, in int) []api.Placed {
	var out []api.Placed
	for _, x := range l {
		if r.IntN(in) == 0 {
			out = append(out, x)
		}
	}
	return out
}

// anyTwig is a pattern of n nodes, any of which hang under any.
func anyTwig(r *rand.Rand, n int) api.Twig {
	t := api.Twig{Direct: r.IntN(3) == 0}
	for n--; n > 0; {
		k := 1 + r.IntN(n)
		t.Kids = append(t.Kids, anyTwig(r, k))
		n -= k
	}
	return t
}

// anyLists is a list of a forest's nodes for each node of a pattern.
func anyLists(r *rand.Rand, t api.Twig, l []api.Placed) [][]api.Placed {
	var lists [][]api.Placed
	for range knots(t) {
		lists = append(lists, some(r, l, 1+r.IntN(3)))
	}
	return lists
}
