package walk_test

import (
	"iter"
	"math"
	"slices"
	"testing"

	"espalier/api"
	"espalier/walk"
)

func list[T comparable](t *testing.T, what string, s iter.Seq[T], most int, want []T, why api.Errno) {
	t.Helper()
	l, e := walk.List(s, most)
	if !slices.Equal(l, want) || e != why {
		t.Errorf("%s: List(.., %d): %v, %d; want %v, %d", what, most, l, e, want, why)
	}
}

// P10.3: what can't be, what is too long, and all that it tells.
func TestList(t *testing.T) {
	for _, most := range []int{math.MinInt, -1, 0, 3, math.MaxInt} {
		list[int](t, "nil", nil, most, nil, api.ErrArg)
	}
	for _, most := range []int{math.MinInt, -1} {
		p := &tap{most: 1}
		list(t, "below 0", p.seq(), most, nil, api.ErrArg)
		p.did(t, "below 0", 0, 0, 0, 0)
	}
	for n := range 20 {
		for most := range 20 {
			p := &tap{most: n}
			if n > most {
				list(t, "too long", p.seq(), most, nil, api.ErrLong)
				p.did(t, "too long", 1, most+1, 1, 0)
			} else {
				list(t, "all", p.seq(), most, upTo(n), api.OK)
				p.did(t, "all", 1, n, 0, 1)
			}
		}
		list(t, "all", slices.Values(upTo(n)), math.MaxInt, upTo(n), api.OK)
	}
	ever := &tap{most: -1}
	list(t, "ever", ever.seq(), 5, nil, api.ErrLong)
	list(t, "ever", ever.seq(), 0, nil, api.ErrLong)
	list(t, "the chapter's", walk.Most(ever.seq(), 3), 9, upTo(3), api.OK)
	list(t, "long", slices.Values(upTo(100000)), 100000, upTo(100000), api.OK)
	list(t, "long", slices.Values(upTo(100001)), 100000, nil, api.ErrLong)
}

// P10.3: a panic is told, whatever it is, wherever it comes.
func TestListPanics(t *testing.T) {
	var none []int
	for _, fail := range []func(){
		func() { panic("mine") }, func() { panic(api.OK) }, func() { panic(nil) }, func() { none[0] = 1 },
	} {
		for n := range 5 {
			var s iter.Seq[int] = func(yield func(int) bool) {
				for i := range n {
					if !yield(i) {
						return
					}
				}
				fail()
			}
			for most := range 8 {
				if most < n {
					list(t, "too long ahead", s, most, nil, api.ErrLong)
				} else {
					list(t, "panics", s, most, nil, api.ErrPanic)
				}
			}
		}
	}
	bad := func(x int) int { panic("mine") }
	list(t, "of a function", walk.Map(slices.Values(upTo(3)), bad), 9, nil, api.ErrPanic)
	list(t, "never called", walk.Map(slices.Values(upTo(0)), bad), 9, nil, api.OK)
	var late iter.Seq[int] = func(yield func(int) bool) {
		defer func() { panic("mine") }()
		for i := 0; yield(i); i++ {
		}
	}
	list(t, "when it is told to stop", late, 3, nil, api.ErrLong)
	list(t, "when it is told to stop", walk.Most(late, 3), 3, nil, api.ErrPanic)
	// One that goes on, though it was told to stop: the language ends it.
	var deaf iter.Seq[int] = func(yield func(int) bool) {
		for i := 0; ; i++ {
			yield(i)
		}
	}
	list(t, "deaf", deaf, 3, nil, api.ErrLong)
}

// Memory: each answer is a list of its own.
func TestListOwn(t *testing.T) {
	l := upTo(5)
	s := slices.Values(l)
	a, _ := walk.List(s, 9)
	b, _ := walk.List(s, 9)
	for _, x := range [][]int{a[:cap(a)], b[:cap(b)]} {
		for i := range x {
			x[i] = -1
		}
		equal(t, "the list", l, upTo(5))
		c, _ := walk.List(s, 9)
		equal(t, "List", c, upTo(5))
	}
	a = append(a[:0], 7)
	if b[0] != -1 {
		t.Error(a, b)
	}
}

// same holds two iterators against each other.
func same(t *testing.T, what string, a, b iter.Seq[int]) {
	t.Helper()
	equal(t, what, slices.Collect(a), slices.Collect(b))
}

// P10.7: the laws, of any lists and some functions.
func TestLaws(t *testing.T) {
	r := dice(6)
	for range 300 {
		l := make([]int, r.IntN(12))
		for i := range l {
			l[i] = r.IntN(20) - 5
		}
		s := slices.Values(l)
		a, b, c := r.IntN(9)-4, r.IntN(9)-4, 1+r.IntN(4)
		f := func(x int) int { return a*x + b }
		g := func(x int) int { return x*x - a }
		p := func(x int) bool { return x%c == 0 }
		q := func(x int) bool { return x > b }
		one := func(x int) iter.Seq[int] { return slices.Values([]int{x}) }
		same(t, "Map of Map", walk.Map(walk.Map(s, f), g), walk.Map(s, func(x int) int { return g(f(x)) }))
		same(t, "Only of Only", walk.Only(walk.Only(s, p), q), walk.Only(s, func(x int) bool { return p(x) && q(x) }))
		same(t, "Flat of one", walk.Flat(s, func(x int) iter.Seq[int] { return one(f(x)) }), walk.Map(s, f))
		same(t, "Then of Then", walk.Then(s, walk.Then(s, walk.Map(s, f))), walk.Then(walk.Then(s, s), walk.Map(s, f)))
		same(t, "Map of Then", walk.Map(walk.Then(s, s), f), walk.Then(walk.Map(s, f), walk.Map(s, f)))
		same(t, "Only of Map", walk.Only(walk.Map(s, f), q), walk.Map(walk.Only(s, func(x int) bool { return q(f(x)) }), f))
		same(t, "Most of Then", walk.Then(walk.Most(s, c), walk.Most(walk.Most(s, c), c)), walk.Then(walk.Most(s, c), walk.Most(s, c)))
		same(t, "Then of one", walk.Then(s), s)
		equal(t, "Map itself", slices.Collect(s), l)
	}
	same(t, "Then of nothing", walk.Then[int](), slices.Values(upTo(0)))
}
