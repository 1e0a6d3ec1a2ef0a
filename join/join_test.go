package join_test

import (
	"slices"
	"testing"

	"espalier/api"
	"espalier/join"
)

func pairs(l ...api.Handle) []api.Pair {
	var out []api.Pair
	for i := 0; i < len(l); i += 2 {
		out = append(out, api.Pair{Outer: l[i], Inner: l[i+1]})
	}
	return out
}

// P11.1, P11.2, P11.3: the document's first example.
func TestExample(t *testing.T) {
	a := []api.Placed{p(1, 1, 10, 0), p(2, 2, 7, 1)}
	d := []api.Placed{p(3, 3, 4, 2), p(4, 8, 9, 1)}
	if g := held(t, a, d, false); !slices.Equal(g.pairs, pairs(1, 3, 2, 3, 1, 4)) || !slices.Equal(g.count, []int{2, 1}) || !slices.Equal(g.nearest, pairs(2, 3, 1, 4)) {
		t.Error(g)
	}
	if g := held(t, a, d, true); !slices.Equal(g.pairs, pairs(2, 3, 1, 4)) || !slices.Equal(g.count, []int{1, 1}) || !slices.Equal(g.nearest, pairs(2, 3, 1, 4)) {
		t.Error(g)
	}
}

// P11.1, P11.2, P11.3: by hand.
func TestByHand(t *testing.T) {
	a := []api.Placed{p(1, 10, 90, 0), p(2, 20, 50, 1), p(3, 30, 40, 2), p(4, 60, 80, 1), p(5, 100, 110, 0)}
	d := []api.Placed{p(11, 1, 5, 0), p(12, 10, 90, 0), p(13, 22, 24, 2), p(14, 32, 34, 3), p(15, 52, 54, 1), p(16, 62, 64, 3), p(17, 92, 94, 0), p(18, 102, 104, 1)}
	g := held(t, a, d, false)
	if !slices.Equal(g.pairs, pairs(1, 13, 2, 13, 1, 14, 2, 14, 3, 14, 1, 15, 1, 16, 4, 16, 5, 18)) {
		t.Error(g.pairs)
	}
	if !slices.Equal(g.outer, a) || !slices.Equal(g.count, []int{4, 2, 1, 1, 1}) {
		t.Error(g.outer, g.count)
	}
	if !slices.Equal(g.inner, []api.Placed{d[2], d[3], d[4], d[5], d[7]}) || !slices.Equal(g.without, []api.Placed{d[0], d[1], d[6]}) {
		t.Error(g.inner, g.without)
	}
	if !slices.Equal(g.nearest, pairs(2, 13, 3, 14, 1, 15, 4, 16, 5, 18)) {
		t.Error(g.nearest)
	}
	g = held(t, a, d, true)
	if !slices.Equal(g.pairs, pairs(2, 13, 3, 14, 1, 15, 5, 18)) || !slices.Equal(g.count, []int{1, 1, 1, 0, 1}) {
		t.Error(g.pairs, g.count)
	}
	if !slices.Equal(g.outer, []api.Placed{a[0], a[1], a[2], a[4]}) {
		t.Error(g.outer)
	}
	if !slices.Equal(g.inner, []api.Placed{d[2], d[3], d[4], d[7]}) || !slices.Equal(g.without, []api.Placed{d[0], d[1], d[5], d[6]}) {
		t.Error(g.inner, g.without)
	}
}

// P11.1, P11.2, P11.3: lists with nothing in them.
func TestEmpty(t *testing.T) {
	l := []api.Placed{p(1, 1, 10, 0), p(2, 2, 7, 1)}
	for _, none := range [][]api.Placed{nil, {}} {
		for _, direct := range []bool{false, true} {
			if g := held(t, none, l, direct); !slices.Equal(g.without, l) || len(g.count) != 0 {
				t.Error(g)
			}
			if g := held(t, l, none, direct); !slices.Equal(g.count, []int{0, 0}) || len(g.without) != 0 {
				t.Error(g)
			}
			held(t, none, none, direct)
		}
	}
}

// P11.1, P11.2, P11.3: a node that is in both lists is not around itself, but what is around it is.
func TestSelf(t *testing.T) {
	l := []api.Placed{p(1, 1, 10, 0), p(2, 2, 7, 1), p(3, 3, 4, 2)}
	if g := held(t, l, l, false); !slices.Equal(g.pairs, pairs(1, 2, 1, 3, 2, 3)) || !slices.Equal(g.nearest, pairs(1, 2, 2, 3)) {
		t.Error(g)
	}
	if g := held(t, l, l, true); !slices.Equal(g.pairs, pairs(1, 2, 2, 3)) || !slices.Equal(g.without, l[:1]) {
		t.Error(g)
	}
}

// P11.1, P11.2, P11.3: handles play no part: several may have one, or none.
func TestHandles(t *testing.T) {
	a := []api.Placed{p(0, 1, 10, 0), p(7, 2, 7, 1), p(7, 20, 30, 0)}
	d := []api.Placed{p(7, 3, 4, 2), p(0, 5, 6, 2), p(1<<64-1, 22, 24, 1)}
	if g := held(t, a, d, false); !slices.Equal(g.pairs, pairs(0, 7, 7, 7, 0, 0, 7, 0, 7, 1<<64-1)) || !slices.Equal(g.nearest, pairs(7, 7, 7, 0, 7, 1<<64-1)) {
		t.Error(g)
	}
	held(t, a, d, true)
	same := []api.Placed{p(1, 5, 9, 3)}
	held(t, same, []api.Placed{p(2, 5, 9, 3)}, false) // one node by its span, whatever its handles are
}

// P11.1, P11.2: levels need not be how deep nodes lie: each of several that are one level above joins.
func TestLevels(t *testing.T) {
	a := []api.Placed{p(1, 1, 90, 4), p(2, 2, 80, 3), p(3, 3, 70, 4), p(4, 4, 60, 63), p(5, 5, 50, 4), p(6, 81, 82, 4)}
	d := []api.Placed{p(11, 10, 11, 5), p(12, 12, 13, 4), p(13, 14, 15, 0), p(14, 16, 17, 63), p(15, 65, 66, 5), p(16, 75, 76, 5), p(17, 85, 86, 5)}
	g := held(t, a, d, true)
	if !slices.Equal(g.pairs, pairs(1, 11, 3, 11, 5, 11, 2, 12, 1, 15, 3, 15, 1, 16, 1, 17)) {
		t.Error(g.pairs)
	}
	if !slices.Equal(g.count, []int{4, 1, 2, 0, 1, 0}) {
		t.Error(g.count)
	}
	if g := held(t, a, d, false); len(g.nearest) != len(d) || g.nearest[0].Outer != 5 || g.nearest[6].Outer != 1 {
		t.Error(g.nearest)
	}
	for _, level := range []int{0, 1, 62, 63} { // up to the ends of what a level can be
		for _, in := range []int{0, 1, 2, 61, 62, 63} {
			g := held(t, []api.Placed{p(1, 1, 9, level)}, []api.Placed{p(2, 2, 3, in)}, true)
			if (len(g.pairs) == 1) != (level+1 == in) {
				t.Error(level, in, g.pairs)
			}
		}
	}
}

// P11.1, P11.2, P11.3: labels up to the last one.
func TestGreatLabels(t *testing.T) {
	const last = 1<<62 - 1
	a := []api.Placed{p(1, 1, last, 0), p(2, 1<<61, last-1, 1)}
	d := []api.Placed{p(3, 2, 3, 1), p(4, last-3, last-2, 2)}
	if g := held(t, a, d, false); !slices.Equal(g.pairs, pairs(1, 3, 1, 4, 2, 4)) {
		t.Error(g)
	}
	held(t, a, d, true)
}

// P11.1: at most MaxPairs pairs; P11.2, P11.3: the others answer however many there are.
func TestMostPairs(t *testing.T) {
	const most = 16384
	a, d := chain(128, 0), row(128, 1000, 1)
	for _, direct := range []bool{false, true} {
		if g := held(t, a, d, direct); len(g.pairs) != most {
			t.Fatal(len(g.pairs))
		}
		more := append(slices.Clone(d), p(5, 5000, 5001, 1))
		if g := held(t, a, more, direct); g.whyPairs != api.ErrLong || len(g.inner) != 129 || g.count[0] != 129 {
			t.Fatal(g.whyPairs)
		}
		more = append(slices.Clone(d), p(5, 1<<41, 1<<41+1, 1)) // it lies in none
		if g := held(t, a, more, direct); len(g.pairs) != most || len(g.without) != 1 {
			t.Fatal(len(g.pairs))
		}
		one := append(chain(1, 0), p(7, 1<<41, 1<<42, 0))
		if g := held(t, one, row(1, 1<<41+1, 1), direct); len(g.pairs) != 1 {
			t.Fatal(g.pairs)
		}
		held(t, chain(129, 0), d, direct)
		held(t, chain(127, 0), d, direct)
	}
	a, d = append(chain(128, 0), p(9, 1<<41, 1<<42, 0)), append(d, p(8, 1<<41+1, 1<<41+2, 1)) // one pair beyond, elsewhere
	held(t, a, d, false)
	held(t, a, d, true)
}

// P11.1, P11.2, P11.3: as many pairs as there can be: all of one list around all of the other.
func TestAllPairs(t *testing.T) {
	n := api.MaxPlaced
	a, d := chain(n, 3), row(n, 1<<20, 4)
	for _, direct := range []bool{false, true} {
		g := ask(t, a, d, direct, api.OK, api.ErrLong)
		if len(g.pairs) != 0 || !slices.Equal(g.outer, a) || !slices.Equal(g.inner, d) || len(g.without) != 0 {
			t.Fatal(direct)
		}
		if len(g.count) != n || slices.Min(g.count) != n || slices.Max(g.count) != n {
			t.Fatal(g.count[:3])
		}
		if len(g.nearest) != n || g.nearest[0] != (api.Pair{Outer: a[n-1].Node, Inner: d[0].Node}) || g.nearest[n-1] != (api.Pair{Outer: a[n-1].Node, Inner: d[n-1].Node}) {
			t.Fatal(g.nearest[:3])
		}
	}
}

// P11.1, P11.2, P11.3: of any two lists out of a forest, with levels as they are or any.
func TestAny(t *testing.T) {
	r := dice(1)
	seen := [3]int{}
	for i := range 6000 {
		l := forest(r, 1+r.IntN(40), 1+r.IntN(8))
		if i%3 == 0 {
			for j := range l {
				l[j].Span.Level = r.IntN(3)
			}
		}
		a, d := some(r, l, 1+r.IntN(4)), some(r, l, 1+r.IntN(4))
		for n, direct := range []bool{false, true} {
			g := held(t, a, d, direct)
			if len(g.pairs) > 0 {
				seen[n]++
			}
			if g.why != api.OK {
				t.Fatal(g.why)
			}
		}
		if len(a) == 0 || len(d) == 0 {
			seen[2]++
		}
	}
	if slices.Min(seen[:]) < 50 {
		t.Error(seen)
	}
}

// P11.5: Inner and Without share d; Count adds up to Pairs; direct pairs are pairs. P11.6: in order of d, nothing twice.
func TestParts(t *testing.T) {
	r := dice(2)
	for range 3000 {
		l := forest(r, 1+r.IntN(60), 1+r.IntN(10))
		a, d := some(r, l, 2), some(r, l, 2)
		var both [2][]api.Pair
		for n, direct := range []bool{false, true} {
			g := ask(t, a, d, direct, api.OK, api.OK)
			both[n] = g.pairs
			all := append(slices.Clone(g.inner), g.without...)
			slices.SortFunc(all, func(x, y api.Placed) int { return int(x.Span.Begin) - int(y.Span.Begin) })
			if !slices.Equal(all, d) {
				t.Fatal("Inner and Without do not share d")
			}
			sum := 0
			for _, n := range g.count {
				sum += n
			}
			if sum != len(g.pairs) {
				t.Fatal(sum, len(g.pairs))
			}
			inOrder(t, g, a, d)
		}
		for _, x := range both[1] {
			if !slices.Contains(both[0], x) {
				t.Fatal("a direct pair is no pair")
			}
		}
	}
}

// inOrder looks that everything rises by d, and what stands by one of d by a; so nothing stands twice.
func inOrder(t *testing.T, g answer, a, d []api.Placed) {
	t.Helper()
	at := func(l []api.Placed, n api.Handle) int {
		return slices.IndexFunc(l, func(x api.Placed) bool { return x.Node == n })
	}
	rises := func(l []api.Pair) bool {
		for i := 1; i < len(l); i++ {
			x, y := at(d, l[i-1].Inner), at(d, l[i].Inner)
			if x > y || x == y && at(a, l[i-1].Outer) >= at(a, l[i].Outer) {
				return false
			}
		}
		return true
	}
	byBegin := func(l []api.Placed) bool {
		for i := 1; i < len(l); i++ {
			if l[i-1].Span.Begin >= l[i].Span.Begin {
				return false
			}
		}
		return true
	}
	if !rises(g.pairs) || !rises(g.nearest) || !byBegin(g.outer) || !byBegin(g.inner) || !byBegin(g.without) {
		t.Fatal("not in order", g)
	}
	for i := 1; i < len(g.nearest); i++ {
		if g.nearest[i].Inner == g.nearest[i-1].Inner {
			t.Fatal("two nearest ones")
		}
	}
}

// Rules, Memory: what is handed in is neither changed, its spare room included, nor kept; an answer is new memory.
func TestMemory(t *testing.T) {
	back := forest(dice(3), 60, 5)
	was := slices.Clone(back)
	a, d := back[:40:50], back[:30:60]
	for _, direct := range []bool{false, true} {
		g := ask(t, a, d, direct, api.OK, api.OK)
		first := ask(t, a, d, direct, api.OK, api.OK)
		for _, l := range [][]api.Placed{g.outer, g.inner, g.without} {
			spoil(l)
		}
		spoil(g.pairs)
		spoil(g.nearest)
		spoil(g.count)
		if !slices.Equal(back, was) {
			t.Fatal("a list that was handed in was changed")
		}
		if !first.equal(ask(t, a, d, direct, api.OK, api.OK)) || !first.equal(want(a, d, direct)) {
			t.Fatal("answers share memory")
		}
	}
}

// spoil overwrites a list with its spare room.
func spoil[T any](l []T) {
	var zero T
	l = l[:cap(l)]
	for i := range l {
		l[i] = zero
	}
}

// Rules, First error: with an error every other result is zero.
func TestZeroBesideError(t *testing.T) {
	l := []api.Placed{p(1, 1, 10, 0), p(2, 2, 7, 1)}
	bad := []api.Placed{p(1, 3, 4, 2), p(2, 6, 9, 1)}
	if g := held(t, l, bad, false); g.why != api.ErrNest {
		t.Error(g)
	}
	if l, e := join.Pairs(chain(200, 0), row(200, 1000, 1), true); len(l) != 0 || e != api.ErrLong {
		t.Error(len(l), e)
	}
}
