package join_test

import (
	"math/rand/v2"
	"slices"
	"testing"

	"espalier/api"
	"espalier/join"
)

func p(n api.Handle, begin, end uint64, level int) api.Placed {
	return api.Placed{Node: n, Span: api.Span{Begin: begin, End: end, Level: level}}
}

func dice(seed uint64) *rand.Rand { return rand.New(rand.NewPCG(seed, 11)) }

// around, possible, cross, joins: the chapter's words.
func around(a, b api.Span) bool { return a.Begin < b.Begin && a.End > b.End }

func possible(s api.Span) bool {
	return s.Begin >= 1 && s.End > s.Begin && s.End <= 1<<62-1 && s.Level >= 0 && s.Level <= 63
}

func cross(x, y api.Span) bool {
	same := x.Begin == y.Begin && x.End == y.End
	if same {
		return x.Level != y.Level
	}
	apart := x.End < y.Begin || y.End < x.Begin
	return !apart && !around(x, y) && !around(y, x)
}

func joins(a, d api.Span, direct bool) bool {
	return around(a, d) && (!direct || a.Level+1 == d.Level)
}

// listWrong is what is wrong with the first wrong node of one list.
func listWrong(l []api.Placed) api.Errno {
	for i, x := range l {
		if !possible(x.Span) {
			return 110
		}
		if i > 0 && l[i-1].Span.Begin >= x.Span.Begin {
			return 71
		}
	}
	return 0
}

// wantError is why two lists can't be joined, each node held against each.
func wantError(a, d []api.Placed) api.Errno {
	if len(a) > 8192 || len(d) > 8192 {
		return 2
	}
	if e := listWrong(a); e != 0 {
		return e
	}
	if e := listWrong(d); e != 0 {
		return e
	}
	all := append(slices.Clone(a), d...)
	for i, x := range all {
		for _, y := range all[:i] {
			if cross(x.Span, y.Span) {
				return 111
			}
		}
	}
	return 0
}

// answer is what all calls answer of two lists.
type answer struct {
	pairs, nearest        []api.Pair
	outer, inner, without []api.Placed
	count                 []int
	why, whyPairs         api.Errno
}

// want is the answer by trying each of a with each of d.
func want(a, d []api.Placed, direct bool) answer {
	var w answer
	if w.why = wantError(a, d); w.why != 0 {
		w.whyPairs = w.why
		return w
	}
	for _, x := range d {
		n, best := 0, -1
		for k, y := range a {
			if joins(y.Span, x.Span, direct) {
				w.pairs = append(w.pairs, api.Pair{Outer: y.Node, Inner: x.Node})
				n++
			}
			if joins(y.Span, x.Span, false) && (best < 0 || y.Span.Begin > a[best].Span.Begin) {
				best = k
			}
		}
		if n > 0 {
			w.inner = append(w.inner, x)
		} else {
			w.without = append(w.without, x)
		}
		if best >= 0 {
			w.nearest = append(w.nearest, api.Pair{Outer: a[best].Node, Inner: x.Node})
		}
	}
	for _, y := range a {
		n := 0
		for _, x := range d {
			if joins(y.Span, x.Span, direct) {
				n++
			}
		}
		w.count = append(w.count, n)
		if n > 0 {
			w.outer = append(w.outer, y)
		}
	}
	if len(w.pairs) > 16384 {
		w.pairs, w.whyPairs = nil, 2
	}
	return w
}

// ask is what the program answers; each call's error is held against what it is to be.
func ask(t *testing.T, a, d []api.Placed, direct bool, why, whyPairs api.Errno) answer {
	t.Helper()
	g := answer{why: why, whyPairs: whyPairs}
	var e [6]api.Errno
	g.pairs, e[0] = join.Pairs(a, d, direct)
	g.outer, e[1] = join.Outer(a, d, direct)
	g.inner, e[2] = join.Inner(a, d, direct)
	g.without, e[3] = join.Without(a, d, direct)
	g.count, e[4] = join.Count(a, d, direct)
	g.nearest, e[5] = join.Nearest(a, d)
	if e != [6]api.Errno{whyPairs, why, why, why, why, why} {
		t.Fatalf("%v, %v, %t: errors %d; want %d, %d", short(a), short(d), direct, e, whyPairs, why)
	}
	return g
}

func (g answer) equal(w answer) bool {
	return slices.Equal(g.pairs, w.pairs) && slices.Equal(g.nearest, w.nearest) && slices.Equal(g.outer, w.outer) &&
		slices.Equal(g.inner, w.inner) && slices.Equal(g.without, w.without) && slices.Equal(g.count, w.count)
}

// held holds all calls against what is found by trying, and looks that the lists are let be.
func held(t *testing.T, a, d []api.Placed, direct bool) answer {
	t.Helper()
	wasA, wasD := slices.Clone(a), slices.Clone(d)
	w := want(a, d, direct)
	g := ask(t, a, d, direct, w.why, w.whyPairs)
	if !g.equal(w) {
		t.Fatalf("%v, %v, %t:\n%v\nwant\n%v", short(a), short(d), direct, g, w)
	}
	if !slices.Equal(a, wasA) || !slices.Equal(d, wasD) {
		t.Fatal("a list was changed")
	}
	return g
}

func short(l []api.Placed) any {
	if len(l) > 20 {
		return len(l)
	}
	return l
}

// chain is n nodes, one in the other, all of a level.
func chain(n, level int) []api.Placed {
	var l []api.Placed
	for i := range n {
		l = append(l, p(api.Handle(i+1), uint64(1+i), 1<<40-uint64(i), level))
	}
	return l
}

// row is n nodes, one behind the other, from a label on, all of a level.
func row(n int, from uint64, level int) []api.Placed {
	var l []api.Placed
	for i := range n {
		begin := from + uint64(2*i)
		l = append(l, p(api.Handle(begin), begin, begin+1, level))
	}
	return l
}

// forest is n nodes, each somewhere in or behind the one ahead, with gaps between the labels.
func forest(r *rand.Rand, n, deep int) []api.Placed {
	var l []api.Placed
	var open []int
	last := uint64(0)
	next := func() uint64 {
		last += 1 + uint64(r.IntN(3))
		return last
	}
	for i := range n {
		for len(open) > 0 && (len(open) == deep || r.IntN(3) == 0) {
			l[open[len(open)-1]].Span.End = next()
			open = open[:len(open)-1]
		}
		l = append(l, p(api.Handle(1000+i), next(), 0, len(open)))
		open = append(open, i)
	}
	for _, i := range slices.Backward(open) {
		l[i].Span.End = next()
	}
	return l
}

// some is those of a list on which a die falls: about one of each in so many.
func some(r *rand.Rand, l []api.Placed, in int) []api.Placed {
	var out []api.Placed
	for _, x := range l {
		if r.IntN(in) == 0 {
			out = append(out, x)
		}
	}
	return out
}
