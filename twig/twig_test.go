package twig_test

import (
	"math"
	"math/rand/v2"
	"slices"
	"testing"

	"espalier/api"
	"espalier/twig"
)

// The chapter's examples.
func TestExamples(t *testing.T) {
	a, b, c, d := p(1, 1, 10, 0), p(2, 2, 3, 1), p(4, 5, 6, 2), p(5, 7, 8, 2)
	lists := [][]api.Placed{{a}, {b}, {c, d}}
	g := held(t, on(under(), on()), lists)
	if !same(g.find, [][]api.Handle{{1, 2, 4}, {1, 2, 5}}) || g.count != 2 || !slices.Equal(g.used[2], []api.Handle{4, 5}) {
		t.Error(g)
	}
	if g := held(t, on(under(), under()), lists); g.count != 0 || len(g.used) != 3 || len(g.used[0])+len(g.used[1])+len(g.used[2]) != 0 {
		t.Error(g)
	}
	three := []api.Placed{p(1, 1, 6, 0), p(2, 2, 5, 1), p(3, 3, 4, 2)}
	if g := held(t, on(on()), times(2, three)); !same(g.find, [][]api.Handle{{1, 2}, {1, 3}, {2, 3}}) {
		t.Error(g)
	}
	if g := held(t, on(under()), times(2, three)); !same(g.find, [][]api.Handle{{1, 2}, {2, 3}}) {
		t.Error(g)
	}
	if g := held(t, on(), times(1, three)); !same(g.find, [][]api.Handle{{1}, {2}, {3}}) || g.count != 3 {
		t.Error(g)
	}
	if g := held(t, on(), [][]api.Placed{nil}); g.count != 0 || len(g.find) != 0 || len(g.used) != 1 {
		t.Error(g)
	}
}

// P12.2: Direct of the first node, and all Names, play no part.
func TestNoPart(t *testing.T) {
	three := []api.Placed{p(1, 1, 6, 1), p(2, 2, 5, 2), p(3, 3, 4, 3)}
	want := held(t, on(on(), under()), times(3, three))
	for _, x := range []api.Twig{under(on(), under()), named("a", on(named("b", on()), named("a", under())))} {
		if g := held(t, x, times(3, three)); !g.equal(want) {
			t.Error(x, g)
		}
	}
}

// P12.2, P12.3: handles play no part: they may be none, or one, or stand the other way round; each node of a list is told once.
func TestAnyHandles(t *testing.T) {
	r := dice(3)
	for i := range 300 {
		l := forest(r, 2+r.IntN(12), 5)
		for k := range l {
			l[k].Node = []api.Handle{0, 7, api.Handle(100 - k), api.Handle(r.Uint64())}[i%4]
		}
		x := anyTwig(r, 1+r.IntN(4))
		held(t, x, anyLists(r, x, l))
	}
	twins := []api.Placed{p(5, 2, 3, 1), p(5, 4, 5, 1)}
	if g := held(t, on(on()), [][]api.Placed{{p(5, 1, 9, 0)}, twins}); len(g.find) != 2 || len(g.used[1]) != 2 || len(g.tops) != 1 {
		t.Error(g)
	}
}

// P12.2, P12.3: levels need not be how deep nodes lie; direct goes by them and by what lies within.
func TestLevels(t *testing.T) {
	a := []api.Placed{p(1, 1, 100, 4), p(2, 2, 99, 7), p(3, 3, 98, 4), p(4, 4, 97, 4)}
	d := []api.Placed{p(5, 10, 11, 5), p(6, 12, 13, 8), p(7, 14, 15, 4), p(8, 101, 102, 5)}
	if g := held(t, on(under()), [][]api.Placed{a, d}); !same(g.find, [][]api.Handle{{1, 5}, {2, 6}, {3, 5}, {4, 5}}) {
		t.Error(g)
	}
	if g := held(t, on(on()), [][]api.Placed{a, d}); g.count != 12 {
		t.Error(g)
	}
	edge := []api.Placed{p(1, 1, 8, 0), p(2, 2, 7, 62), p(3, 3, 6, 63), p(4, 4, 5, 0)}
	if g := held(t, on(under()), times(2, edge)); !same(g.find, [][]api.Handle{{2, 3}}) {
		t.Error(g)
	}
}

// P12.2, P12.3: a node does not lie in itself, whatever else is open.
func TestSelf(t *testing.T) {
	l := []api.Placed{p(1, 1, 10, 0), p(2, 2, 9, 1)}
	for _, x := range []api.Twig{on(on()), on(under())} {
		if g := held(t, x, [][]api.Placed{l[:1], l[:1]}); g.count != 0 || len(g.tops) != 0 {
			t.Error(g)
		}
		if g := held(t, x, times(2, l)); !same(g.find, [][]api.Handle{{1, 2}}) {
			t.Error(g)
		}
	}
	// but two branches may come to the same node
	if g := held(t, on(on(), under()), times(3, l)); !same(g.find, [][]api.Handle{{1, 2, 2}}) {
		t.Error(g)
	}
}

// P12.5, and P12.2, P12.3: what is found by trying all nodes of all lists, with levels as they are or any.
func TestAny(t *testing.T) {
	r := dice(4)
	seen := [4]int{}
	for i := range 8000 {
		l := forest(r, 1+r.IntN(16), 1+r.IntN(6))
		if i%3 == 0 {
			for j := range l {
				l[j].Span.Level = r.IntN(3)
			}
		}
		n := 1 + r.IntN(5)
		x := anyTwig(r, n)
		g := held(t, x, anyLists(r, x, l))
		switch {
		case g.count == 0:
			seen[0]++
		case n > 2 && g.count > 16384:
			seen[3]++
		case n > 2:
			seen[1]++
		default:
			seen[2]++
		}
	}
	if slices.Min(seen[:3]) < 500 {
		t.Error(seen)
	}
}

// P12.5: patterns of as many nodes as can be, around a match that is laid first, with few other nodes.
func TestAnyGreat(t *testing.T) {
	r := dice(5)
	seen := [2]int{}
	for range 16000 {
		x := anyTwig(r, 12+r.IntN(5))
		l := forest(r, 20+r.IntN(30), 20)
		lists, ok := planted(r, x, l)
		if !ok {
			continue
		}
		for i := range lists {
			if n := l[r.IntN(len(l))]; r.IntN(2) == 0 && n != lists[i][0] {
				lists[i] = append(lists[i], n)
				slices.SortFunc(lists[i], func(a, b api.Placed) int { return int(a.Span.Begin) - int(b.Span.Begin) })
			}
		}
		if g := held(t, x, lists); g.count > 0 {
			seen[min(1, g.count-1)]++
		}
	}
	if slices.Min(seen[:]) < 100 {
		t.Error(seen)
	}
}

// planted is lists of one node each that are a match, if it comes to that.
func planted(r *rand.Rand, t api.Twig, l []api.Placed) ([][]api.Placed, bool) {
	ks := knots(t)
	lists := [][]api.Placed{l[:1:1]}
	for _, k := range ks[1:] {
		above := lists[k.above][0].Span
		may := slices.DeleteFunc(slices.Clone(l), func(x api.Placed) bool {
			return !around(above, x.Span) || k.t.Direct && above.Level+1 != x.Span.Level
		})
		if len(may) == 0 {
			return nil, false
		}
		at := r.IntN(len(may))
		lists = append(lists, may[at:at+1:at+1])
	}
	return lists, true
}

// fan is the lists of a pattern of a first node and one under it for each number: so many nodes in its only one.
func fan(n ...int) (api.Twig, [][]api.Placed) {
	x, lists := on(), [][]api.Placed{{p(1, 1, 1<<40, 0)}}
	for i, k := range n {
		x.Kids = append(x.Kids, api.Twig{Direct: i%2 == 0})
		lists = append(lists, row(k, uint64(2+10000*i), 1))
	}
	return x, lists
}

// P12.2: ErrLong, if there are more than most, or MaxPairs; each is itself allowed.
func TestMost(t *testing.T) {
	for _, x := range []struct {
		n    []int
		want int
	}{{[]int{128, 128}, 16384}, {[]int{5, 29, 113}, 16385}, {[]int{43, 127, 3}, 16383}, {[]int{4096, 4}, 16384}, {[]int{4096, 4, 0}, 0}, {[]int{6}, 6}} {
		pattern, lists := fan(x.n...)
		for _, most := range []int{0, 1, 5, 6, 7, 16382, 16383, 16384, 16385, math.MaxInt} {
			l, e := twig.Find(pattern, lists, most)
			if x.want > most || x.want > 16384 {
				if l != nil || e != api.ErrLong {
					t.Errorf("%v, %d: %d, %d; want ErrLong", x.n, most, len(l), e)
				}
			} else if len(l) != x.want || e != api.OK {
				t.Errorf("%v, %d: %d, %d", x.n, most, len(l), e)
			}
			paths(t, pattern, lists, most, l, e)
		}
		if n, e := twig.Count(pattern, lists); n != uint64(x.want) || e != api.OK {
			t.Errorf("%v: Count %d, %d", x.n, n, e)
		}
	}
	for _, x := range []api.Twig{on(), on(on()), on(on(under()), on())} {
		if l, e := twig.Find(x, make([][]api.Placed, len(knots(x))), 0); len(l) != 0 || e != api.OK {
			t.Error(l, e)
		}
	}
	// a pattern of one node
	if l, e := twig.Find(on(), [][]api.Placed{row(5, 1, 0)}, 4); l != nil || e != api.ErrLong {
		t.Error(l, e)
	}
	if l, e := twig.Find(on(), [][]api.Placed{row(5, 1, 0)}, 5); len(l) != 5 || e != api.OK {
		t.Error(l, e)
	}
}

// digits is tops of which each has so many nodes for each place under it.
func digits(tops ...[]int) (api.Twig, [][]api.Placed) {
	lists := make([][]api.Placed, len(tops[0])+1)
	x := on()
	for i := range tops[0] {
		x.Kids = append(x.Kids, api.Twig{Direct: i%2 == 1})
	}
	last := uint64(1)
	for _, n := range tops {
		begin := last
		for i, k := range n {
			lists[i+1] = append(lists[i+1], row(k, last+1, 1)...)
			last += uint64(2 * k)
		}
		lists[0] = append(lists[0], p(api.Handle(begin), begin, last+1, 0))
		last += 2
	}
	return x, lists
}

// P12.3: up to 2^64 - 1 are counted: a sum of 255 times each power of 256; one more is too many.
func TestCountEdge(t *testing.T) {
	var tops [][]int
	for j := range 8 {
		n := []int{255, 1, 1, 1, 1, 1, 1, 1}
		for i := 1; i <= j; i++ {
			n[i] = 256
		}
		tops = append(tops, n)
	}
	x, lists := digits(tops...)
	if n, e := twig.Count(x, lists); n != math.MaxUint64 || e != api.OK {
		t.Error(n, e)
	}
	one := []int{1, 1, 1, 1, 1, 1, 1, 1}
	for i := range len(tops) + 1 {
		x, lists := digits(slices.Insert(slices.Clone(tops), i, one)...)
		g := tooMany(t, x, lists)
		if len(g.tops) != 9 || len(g.used[1]) != 8*255+1 {
			t.Error(i, len(g.tops))
		}
	}
}

// tooMany asks all calls where there are 2^64 matches or more: none are told, but which nodes stand in them.
func tooMany(t *testing.T, x api.Twig, lists [][]api.Placed) answer {
	t.Helper()
	g := ask(t, x, lists, math.MaxInt, api.OK, api.ErrLong, api.ErrLong)
	if g.count != 0 || g.find != nil {
		t.Error("beside an error:", g.count, len(g.find))
	}
	return g
}

// P12.3: where a part has 2^64 matches or more, and the whole has not.
func TestCountParts(t *testing.T) {
	great := []int{256, 256, 256, 256, 256, 256, 256, 256}
	for _, more := range [][]int{nil, {1}, {256}, {3, 256, 1}} {
		x, lists := digits(append(more, great...))
		if g := tooMany(t, x, lists); len(g.tops) != 1 {
			t.Error(more, g.tops)
		}
	}
	x, lists := digits(great)
	g := tooMany(t, x, lists)
	if len(g.tops) != 1 || len(g.used) != 9 || len(g.used[8]) != 256 { // 2^64, whose lower 64 bits are 0
		t.Error(g.tops)
	}
	// under a second one that has nothing for another branch
	far := row(1, 1<<41, 1)
	for _, extra := range [][]api.Placed{nil, far} {
		first := api.Twig{Kids: []api.Twig{x, on()}}
		all := append([][]api.Placed{{p(9, 1, 1<<40, 0)}}, cloned(moved(lists))...)
		if g := ask(t, first, append(all, extra), 9, api.OK, api.OK); g.count != 0 || len(g.tops) != 0 || len(g.find) != 0 || len(g.used[3]) != 0 {
			t.Error(g)
		}
		turned := api.Twig{Kids: []api.Twig{on(), x}}
		all = slices.Insert(all, 1, extra)
		if g := ask(t, turned, all, 9, api.OK, api.OK); g.count != 0 || len(g.tops) != 0 {
			t.Error(g)
		}
	}
	// in nothing for the one above it, beside one that has just one match
	above := []api.Placed{p(9, 1<<41, 1<<42, 0)}
	small, inAbove := digits([]int{1, 1, 1, 1, 1, 1, 1, 1})
	all := append([][]api.Placed{above}, cloned(lists)...)
	for i, l := range inAbove {
		for _, n := range l {
			n.Span.Begin += 1<<41 + 1
			n.Span.End += 1<<41 + 1
			all[i+1] = append(all[i+1], n)
		}
	}
	if g := ask(t, on(small), all, 9, api.OK, api.OK); g.count != 1 || len(g.find) != 1 || len(g.used[1]) != 1 {
		t.Error(g)
	}
	// in one another: what is too much stays so
	deeper := append([][]api.Placed{{p(9, 1, 1<<40, 0)}}, moved(lists)...)
	if g := tooMany(t, on(x), deeper); len(g.tops) != 1 || len(g.used[9]) != 256 {
		t.Error(g.tops)
	}
	if g := tooMany(t, on(x, on()), append(deeper, deeper[9])); len(g.tops) != 1 {
		t.Error(g.tops)
	}
	if g := tooMany(t, on(on(), x), slices.Insert(deeper, 1, deeper[9][:1])); len(g.tops) != 1 {
		t.Error(g.tops)
	}
}

// moved is lists with all labels one further, so that there is room for one around all; levels one deeper.
func moved(lists [][]api.Placed) [][]api.Placed {
	out := cloned(lists)
	for _, l := range out {
		for i := range l {
			l[i].Span.Begin++
			l[i].Span.End++
			l[i].Span.Level++
		}
	}
	return out
}

// P12.2, P12.3: as many nodes as there may be, as deep as can be: all calls end, and soon.
func TestFull(t *testing.T) {
	x := on()
	for range 15 {
		x = on(x)
	}
	l := chain(api.MaxNodes, 0)
	g := tooMany(t, x, times(16, l))
	for i, u := range g.used {
		if len(u) != api.MaxNodes-15 || u[0] != api.Handle(1+i) {
			t.Fatal(i, len(u), u[0])
		}
	}
	if n, e := twig.Count(on(on()), times(2, l)); n != 4096*4095/2 || e != api.OK {
		t.Error(n, e)
	}
	if n, e := twig.Count(on(on(on())), times(3, l)); n != 4096*4095*4094/6 || e != api.OK {
		t.Error(n, e)
	}
	if n, e := twig.Count(on(on(), on()), times(3, l)); n != 4095*4096*8191/6 || e != api.OK {
		t.Error(n, e)
	}
	many := [][]api.Placed{chain(64, 0), nil}
	for i := range api.MaxNodes {
		many[1] = append(many[1], p(api.Handle(i), uint64(100+2*i), uint64(101+2*i), 1))
	}
	for _, x := range []api.Twig{on(on()), on(under())} {
		if n, e := twig.Count(x, many); n != 64*4096 || e != api.OK {
			t.Error(n, e)
		}
		if l, e := twig.Find(x, [][]api.Placed{many[0][:4], many[1]}, math.MaxInt); len(l) != 16384 || e != api.OK {
			t.Error(len(l), e)
		}
		if l, e := twig.Find(x, [][]api.Placed{many[0][:5], many[1]}, math.MaxInt); l != nil || e != api.ErrLong {
			t.Error(len(l), e)
		}
	}
}

// Rules, Memory: what is handed in is neither changed, its spare room included, nor kept; an answer is new memory.
func TestMemory(t *testing.T) {
	back := forest(dice(6), 24, 4)
	was := slices.Clone(back)
	lists := [][]api.Placed{back[:20:22], back[:18:24], back[2:21:23]}
	x := on(on(), under())
	first := ask(t, x, lists, 16384, api.OK, api.OK)
	if len(first.find) < 2 {
		t.Fatal(first)
	}
	g := ask(t, x, lists, 16384, api.OK, api.OK)
	spoil(g.tops)
	if !same(g.used, first.used) {
		t.Fatal("Tops and Used share memory")
	}
	for _, answers := range [][][]api.Handle{g.find, g.used} {
		rest := cloneAll(answers)
		for i, l := range answers {
			spoil(l)
			rest[i] = slices.Repeat([]api.Handle{0}, len(rest[i]))
			if !same(answers, rest) {
				t.Fatal("lists of an answer share memory")
			}
		}
		spoil(answers)
	}
	made, e := twig.Lists(x, back[:20:22], func(api.Handle) string { return "a" })
	if e != api.OK || len(made) != 3 {
		t.Fatal(made, e)
	}
	for i, l := range made {
		spoil(l)
		for _, other := range made[i+1:] {
			if !slices.Equal(other, was[:20]) {
				t.Fatal("lists of an answer share memory")
			}
		}
	}
	if !slices.Equal(back, was) || !ask(t, x, lists, 16384, api.OK, api.OK).equal(first) {
		t.Fatal("what was handed in was changed, or answers share memory")
	}
}

func cloneAll(lists [][]api.Handle) [][]api.Handle {
	var out [][]api.Handle
	for _, l := range lists {
		out = append(out, slices.Clone(l))
	}
	return out
}

// spoil overwrites a list with its spare room.
func spoil[T any](l []T) { clear(l[:cap(l)]) }
