package walk_test

import (
	"iter"
	"math"
	"slices"
	"strconv"
	"testing"

	"espalier/api"
	"espalier/walk"
)

func odd(x int) bool { return x%2 == 1 }

// thrice is x, three times.
func thrice(x int) iter.Seq[int] { return slices.Values([]int{x, x, x}) }

// link is an iterator made of one of numbers, and what it makes of a list.
type link struct {
	name string
	make func(s iter.Seq[int]) iter.Seq[int]
	of   func(l []int) []int
}

func links() []link {
	keep := func(means func(i, x int) bool) func(l []int) []int {
		return func(l []int) []int {
			var out []int
			for i, x := range l {
				if means(i, x) {
					out = append(out, x)
				}
			}
			return out
		}
	}
	return []link{
		{"Only", func(s iter.Seq[int]) iter.Seq[int] { return walk.Only(s, odd) }, keep(func(_, x int) bool { return odd(x) })},
		{"Only all", func(s iter.Seq[int]) iter.Seq[int] { return walk.Only(s, func(int) bool { return true }) }, slices.Clone[[]int]},
		{"Most", func(s iter.Seq[int]) iter.Seq[int] { return walk.Most(s, 4) }, keep(func(i, _ int) bool { return i < 4 })},
		{"Map", func(s iter.Seq[int]) iter.Seq[int] { return walk.Map(s, func(x int) int { return 10 * x }) }, func(l []int) []int {
			var out []int
			for _, x := range l {
				out = append(out, 10*x)
			}
			return out
		}},
		{"Flat", func(s iter.Seq[int]) iter.Seq[int] { return walk.Flat(s, thrice) }, func(l []int) []int {
			var out []int
			for _, x := range l {
				out = append(out, x, x, x)
			}
			return out
		}},
		{"Then", func(s iter.Seq[int]) iter.Seq[int] { return walk.Then(s) }, slices.Clone[[]int]},
		{"Pairs, the first", func(s iter.Seq[int]) iter.Seq[int] {
			ever := tap{most: -1}
			return func(yield func(int) bool) {
				walk.Pairs(s, ever.seq())(func(x, _ int) bool { return yield(x) })
			}
		}, slices.Clone[[]int]},
		{"Pairs, the second", func(s iter.Seq[int]) iter.Seq[int] {
			ever := tap{most: -1}
			return func(yield func(int) bool) {
				walk.Pairs(ever.seq(), s)(func(_, x int) bool { return yield(x) })
			}
		}, slices.Clone[[]int]},
	}
}

// P10.2: what each tells, of none, of one, of many, and each time it is gone through.
func TestLinks(t *testing.T) {
	for _, k := range links() {
		for n := range 40 {
			s := k.make(slices.Values(upTo(n)))
			for range 2 {
				equal(t, k.name, slices.Collect(s), k.of(upTo(n)))
			}
		}
	}
}

// P10.2: links of links, against the same done to lists.
func TestLinksOfLinks(t *testing.T) {
	for _, a := range links() {
		for _, b := range links() {
			for _, c := range links() {
				s := c.make(b.make(a.make(slices.Values(upTo(9)))))
				equal(t, a.name+", "+b.name+", "+c.name, slices.Collect(s), c.of(b.of(a.of(upTo(9)))))
			}
		}
	}
}

// P10.2: nothing is asked as they are made; what they are made of is gone through as often as they are, to its end.
func TestAskedWhenGoneThrough(t *testing.T) {
	for _, k := range links() {
		if k.name == "Most" || k.name == "Pairs, the second" {
			continue // these do not go to the end, or begin anew
		}
		p := &tap{most: 6}
		s := k.make(p.seq())
		p.did(t, k.name+", made", 0, 0, 0, 0)
		for i := 1; i <= 3; i++ {
			drain(s)
			p.did(t, k.name, i, 6*i, 0, i)
		}
	}
}

// P10.2: when they are told to stop they stop what they are made of, ask no more, and tell no more; they may be gone through again.
func TestStops(t *testing.T) {
	for _, k := range links() {
		want := k.of(upTo(12))
		for n := 1; n < len(want); n++ {
			p := &tap{most: 12}
			s := k.make(p.seq())
			equal(t, k.name, first(t, s, n), want[:n])
			if k.name != "Pairs, the second" {
				ahead := slices.IndexFunc(upTo(13), func(i int) bool { return len(k.of(upTo(i))) >= n })
				p.did(t, k.name, 1, ahead, 1, 0)
			} else if p.stopped != p.begun {
				t.Errorf("%s: begun %d, stopped %d", k.name, p.begun, p.stopped)
			}
			equal(t, k.name+" again", slices.Collect(s), want)
		}
	}
}

// P10.2: what never ends may be what they are made of.
func TestEver(t *testing.T) {
	for _, k := range links() {
		p := &tap{most: -1}
		equal(t, k.name, first(t, k.make(p.seq()), 4), k.of(upTo(12))[:4])
	}
}

// P10.2: each is told as soon as it comes up, ahead of what comes behind it.
func TestOneByOne(t *testing.T) {
	var log []string
	note := func(what string, x int) { log = append(log, what+strconv.Itoa(x)) }
	var s iter.Seq[int] = func(yield func(int) bool) {
		for i := range 3 {
			note("ask ", i)
			if !yield(i) {
				return
			}
		}
	}
	for x := range walk.Flat(walk.Map(walk.Only(s, func(x int) bool {
		note("means ", x)
		return x != 1
	}), func(x int) int {
		note("to ", x)
		return x + 10
	}), func(x int) iter.Seq[int] {
		note("flat ", x)
		return slices.Values([]int{x, x + 100})
	}) {
		note("tell ", x)
	}
	equal(t, "the order", log, []string{
		"ask 0", "means 0", "to 0", "flat 10", "tell 10", "tell 110",
		"ask 1", "means 1",
		"ask 2", "means 2", "to 2", "flat 12", "tell 12", "tell 112"})
}

// P10.2: Only asks once for each that comes up, in its order; so do Map and Flat.
func TestCalledOnce(t *testing.T) {
	var means, to, flat []int
	s := slices.Values([]int{3, 1, 4, 1, 5})
	only := walk.Only(s, func(x int) bool { means = append(means, x); return odd(x) })
	mapped := walk.Map(only, func(x int) int { to = append(to, x); return -x })
	all := walk.Flat(mapped, func(x int) iter.Seq[int] { flat = append(flat, x); return slices.Values([]int{x, x}) })
	equal(t, "all", slices.Collect(all), []int{-3, -3, -1, -1, -1, -1, -5, -5})
	equal(t, "means", means, []int{3, 1, 4, 1, 5})
	equal(t, "to", to, []int{3, 1, 1, 5})
	equal(t, "flat", flat, []int{-3, -1, -1, -5})
	first(t, all, 3)
	equal(t, "means, stopped", means[5:], []int{3, 1})
	equal(t, "to, stopped", to[4:], []int{3, 1})
	equal(t, "flat, stopped", flat[4:], []int{-3, -1})
}

// P10.2, P10.6: Most: the first n; as soon as so many were told no more is asked.
func TestMost(t *testing.T) {
	for _, n := range []int{math.MinInt, -2, -1, 0} {
		p := &tap{most: 3}
		equal(t, "Most of none", slices.Collect(walk.Most(p.seq(), n)), nil)
		p.did(t, "Most of none", 0, 0, 0, 0)
	}
	for n := 1; n < 6; n++ {
		for most := range 6 {
			p := &tap{most: most}
			equal(t, "Most", slices.Collect(walk.Most(p.seq(), n)), upTo(min(n, most)))
			stopped := 0
			if most >= n {
				stopped = 1
			}
			p.did(t, "Most", 1, min(n, most), stopped, 1-stopped)
		}
	}
	equal(t, "Most of all", slices.Collect(walk.Most(slices.Values(upTo(5)), math.MaxInt)), upTo(5))
}

// P10.6: at most n are asked, whatever lies behind: also what panics, or never comes.
func TestMostWhateverLiesBehind(t *testing.T) {
	var s iter.Seq[int] = func(yield func(int) bool) {
		if yield(0) && yield(1) && yield(2) {
			panic("too far")
		}
	}
	twice := walk.Most(s, 3)
	for range 2 {
		equal(t, "Most", slices.Collect(twice), upTo(3))
	}
	var hangs iter.Seq[int] = func(yield func(int) bool) {
		for i := 0; i < 3 && yield(i) || i >= 3; i++ {
		}
	}
	equal(t, "what hangs", slices.Collect(walk.Most(hangs, 3)), upTo(3))
	p := &tap{most: -1}
	equal(t, "of Map of Only", slices.Collect(walk.Most(walk.Map(walk.Only(p.seq(), odd), strconv.Itoa), 3)), []string{"1", "3", "5"})
	p.did(t, "of Map of Only", 1, 6, 1, 0)
	for range 2 {
		p = &tap{most: -1}
		equal(t, "of Most", slices.Collect(walk.Most(walk.Most(p.seq(), 5), 3)), upTo(3))
		p.did(t, "of Most", 1, 3, 1, 0)
		p = &tap{most: -1}
		equal(t, "of Most", slices.Collect(walk.Most(walk.Most(p.seq(), 3), 5)), upTo(3))
		p.did(t, "of Most", 1, 3, 1, 0)
	}
}

// P10.2: one that is gone through within itself begins anew there.
func TestWithinThemselves(t *testing.T) {
	for _, k := range links() {
		s := k.make(slices.Values(upTo(7)))
		want := k.of(upTo(7))
		var outer []int
		for x := range s {
			outer = append(outer, x)
			equal(t, k.name+", inner", slices.Collect(s), want)
		}
		equal(t, k.name+", outer", outer, want)
	}
}

// P10.2: where a function or an iterator is nil there is nothing, and nothing is asked: it may never end.
func TestNil(t *testing.T) {
	p := &tap{most: -1}
	ever := p.seq()
	type to = func(int) iter.Seq[int]
	for i, s := range []iter.Seq[int]{
		walk.Only(nil, odd), walk.Only[int](nil, nil), walk.Only(ever, nil),
		walk.Most[int](nil, 3), walk.Most[int](nil, 0),
		walk.Map(nil, func(x int) int { return x }), walk.Map[int, int](nil, nil), walk.Map[int, int](ever, nil),
		walk.Flat(nil, thrice), walk.Flat(nil, to(nil)), walk.Flat(ever, to(nil)),
		walk.Then[int](), walk.Then[int](nil), walk.Then[int](nil, nil),
	} {
		if s == nil {
			t.Fatal(i, "is nil")
		}
		equal(t, "nil", slices.Collect(s), nil)
	}
	for i, s := range []iter.Seq2[int, int]{walk.Pairs[int, int](nil, nil), walk.Pairs[int, int](nil, ever), walk.Pairs[int, int](ever, nil)} {
		if s == nil {
			t.Fatal(i, "is nil")
		}
		for x, y := range s {
			t.Error(i, x, y)
		}
	}
	p.did(t, "nil", 0, 0, 0, 0)
	equal(t, "Then, nil between", slices.Collect(walk.Then(nil, slices.Values(upTo(2)), nil, slices.Values(upTo(3)))), []int{0, 1, 0, 1, 2})
	equal(t, "Flat, nil between", slices.Collect(walk.Flat(slices.Values(upTo(5)), func(x int) iter.Seq[int] {
		if odd(x) {
			return nil
		}
		return slices.Values(upTo(x))
	})), []int{0, 1, 0, 1, 2, 3})
}

// P10.2: Then asks one when those ahead have told all, and each of them as often as it is handed in.
func TestThen(t *testing.T) {
	a, b, c := &tap{most: 2}, &tap{}, &tap{most: 3}
	s := walk.Then(a.seq(), b.seq(), c.seq(), a.seq())
	equal(t, "Then", slices.Collect(s), []int{0, 1, 0, 1, 2, 0, 1})
	a.did(t, "a", 2, 4, 0, 2)
	b.did(t, "b", 1, 0, 0, 1)
	c.did(t, "c", 1, 3, 0, 1)
	*a, *b, *c = tap{most: 2}, tap{}, tap{most: 3}
	first(t, s, 2)
	a.did(t, "a, stopped at its last", 1, 2, 1, 0)
	b.did(t, "b, stopped ahead", 0, 0, 0, 0)
	first(t, s, 3)
	a.did(t, "a, gone through", 2, 4, 1, 1)
	b.did(t, "b, gone through", 1, 0, 0, 1)
	c.did(t, "c, stopped", 1, 1, 1, 0)
	ever := &tap{most: -1}
	equal(t, "behind what never ends", first(t, walk.Then(ever.seq(), c.seq()), 9), upTo(9))
	c.did(t, "c, never", 1, 1, 1, 0)
}

// Memory: the list that Then is handed is not kept.
func TestThenKeepsNoList(t *testing.T) {
	l := []iter.Seq[int]{slices.Values(upTo(1)), slices.Values(upTo(2)), nil}
	s := walk.Then(l[:2]...)
	l[0], l[1], l[2] = nil, slices.Values(upTo(9)), slices.Values(upTo(9))
	equal(t, "Then", slices.Collect(s), []int{0, 0, 1})
	if l[0] != nil || l[2] == nil {
		t.Error("the list was changed")
	}
}

// P10.2: Flat stops the inner one and the outer one, and may be made of what never ends within and without.
func TestFlatStops(t *testing.T) {
	outer, inner := &tap{most: -1}, &tap{most: 3}
	s := walk.Flat(outer.seq(), func(int) iter.Seq[int] { return inner.seq() })
	equal(t, "Flat", first(t, s, 5), []int{0, 1, 2, 0, 1})
	outer.did(t, "outer", 1, 2, 1, 0)
	inner.did(t, "inner", 2, 5, 1, 1)
	outer, inner = &tap{most: 2}, &tap{most: -1}
	s = walk.Flat(outer.seq(), func(int) iter.Seq[int] { return inner.seq() })
	equal(t, "Flat", first(t, s, 5), upTo(5))
	outer.did(t, "outer", 1, 1, 1, 0)
	inner.did(t, "inner", 1, 5, 1, 0)
}

// What is handed in and panics goes through, as the chapter tells ErrPanic of List alone; thereafter all is of use.
func TestPanicsGoThrough(t *testing.T) {
	fails := true
	fail := func(x int) {
		if fails && x == 2 {
			panic("mine")
		}
	}
	means := func(x int) bool { fail(x); return true }
	to := func(x int) int { fail(x); return x }
	bad := walk.Map(slices.Values(upTo(4)), to)
	whole := slices.Values(upTo(4))
	pairs := func(s, t iter.Seq[int]) iter.Seq[int] {
		return func(yield func(int) bool) {
			walk.Pairs(s, t)(func(x, y int) bool { return yield(x) })
		}
	}
	for i, s := range []iter.Seq[int]{
		bad, walk.Only(whole, means), walk.Only(bad, odd), walk.Most(bad, 4), walk.Map(bad, to),
		walk.Flat(bad, thrice), walk.Flat(whole, func(x int) iter.Seq[int] { fail(x); return thrice(x) }),
		walk.Flat(thrice(0), func(int) iter.Seq[int] { return bad }), walk.Then(whole, bad),
		pairs(bad, whole), pairs(whole, bad),
	} {
		fails = true
		if what := panics(func() { drain(s) }); what != "mine" {
			t.Error(i, what)
		}
		fails = false
		if l := slices.Collect(s); len(l) == 0 || panics(func() { drain(s) }) != nil {
			t.Error(i, l)
		}
		what := panics(func() {
			for range s {
				panic("of the body")
			}
		})
		if what != "of the body" {
			t.Error(i, what)
		}
	}
}

// P10.2: of any types.
func TestOfAnything(t *testing.T) {
	type named struct {
		name string
		l    []int
	}
	s := walk.Map(slices.Values([]string{"a", "bb", "ccc"}), func(x string) named { return named{x, upTo(len(x))} })
	l := walk.Flat(s, func(x named) iter.Seq[int] { return slices.Values(x.l) })
	equal(t, "Flat", slices.Collect(l), []int{0, 0, 1, 0, 1, 2})
	p := walk.Map(s, func(x named) *named { return &x })
	for x, y := range walk.Pairs(p, walk.Map(s, func(x named) any { return x.name })) {
		if x.name != y {
			t.Error(x, y)
		}
	}
	f := walk.Map(slices.Values(upTo(3)), func(x int) func() int { return func() int { return x } })
	equal(t, "functions", slices.Collect(walk.Map(f, func(f func() int) int { return f() })), upTo(3))
	d, all := docOf(t, el("a", el("b"), words("1"), el("c", words("2"))))
	texts := walk.Only(axisOf(t, d, api.DescendantAxis, all[0]), func(n api.Handle) bool {
		x, _ := d.Get(n)
		return x.Kind == api.Text
	})
	equal(t, "texts", slices.Collect(texts), []api.Handle{all[2], all[4]})
	up := walk.Flat(texts, func(n api.Handle) iter.Seq[api.Handle] {
		s, _ := walk.Axis(d, api.AncestorAxis, n)
		return s
	})
	equal(t, "around the texts", slices.Collect(up), []api.Handle{all[0], all[3], all[0]})
	d.Delete(all[3])
	equal(t, "as it begins", slices.Collect(up), []api.Handle{all[0]})
}
