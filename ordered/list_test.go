package ordered_test

import (
	"math"
	"slices"
	"strings"
	"testing"

	"espalier/api"
	"espalier/ordered"
)

// P7.1: the document's first example.
func TestExample(t *testing.T) {
	l := newList(t, rising, 3, 1, 2)
	holds(t, l, 1, 2, 3)
	if e := l.Put(2); e != api.ErrTwice {
		t.Error(e)
	}
	equal(t, "From(2)", from(l, 2), []int{2, 3})
	equal(t, "Back(2)", back(l, 2), []int{1})
	if n := l.Rank(9); n != 3 {
		t.Error(n)
	}
}

// P7.1: New wants an order, and makes a list of none.
func TestNew(t *testing.T) {
	if l, e := ordered.New[int](nil); l != nil || e != api.ErrArg {
		t.Error(l, e)
	}
	if l, e := ordered.New[func()](nil); l != nil || e != api.ErrArg {
		t.Error(l, e)
	}
	called := 0
	l := newList(t, func(a, b int) bool { called++; return a < b })
	agreeNone(t, l)
	if called != 0 {
		t.Error("less was asked of nothing:", called)
	}
}

func agreeNone(t *testing.T, l *ordered.List[int]) {
	t.Helper()
	holds(t, l)
	for _, i := range []int{math.MinInt, -1, 0, 1, math.MaxInt} {
		if x, ok := l.At(i); x != 0 || ok {
			t.Errorf("At(%d): %d, %t", i, x, ok)
		}
		if l.Has(i) || l.Drop(i) || l.Rank(i) != 0 || len(from(l, i)) != 0 || len(back(l, i)) != 0 {
			t.Error("something is there of", i)
		}
	}
}

// P7.1, P7.2: a list that was emptied is one of none, and is of use.
func TestEmptied(t *testing.T) {
	l := newList(t, rising, 5, 4, 6)
	for _, x := range []int{5, 6, 4} {
		if !l.Drop(x) || l.Drop(x) || l.Has(x) {
			t.Error(x)
		}
	}
	agreeNone(t, l)
	put(t, l, 7)
	holds(t, l, 7)
}

// P7.1: what is one with an element that is there is refused, and the one that is there stays; Drop and Has need only one that is one with it.
func TestTwice(t *testing.T) {
	l := newList(t, byKey, card{1, 1}, card{3, 3}, card{2, 2})
	for k := 1; k <= 3; k++ {
		if e := l.Put(card{k, 10 + k}); e != api.ErrTwice {
			t.Error(k, e)
		}
		if !l.Has(card{k, 20 + k}) {
			t.Error(k)
		}
	}
	holds(t, l, card{1, 1}, card{2, 2}, card{3, 3})
	if !l.Drop(card{2, 99}) {
		t.Error("not dropped")
	}
	holds(t, l, card{1, 1}, card{3, 3})
	put(t, l, card{2, 12})
	holds(t, l, card{1, 1}, card{2, 12}, card{3, 3})
	if l.Drop(card{4, 3}) || l.Drop(card{0, 1}) {
		t.Error("dropped what is not there")
	}
	holds(t, l, card{1, 1}, card{2, 12}, card{3, 3})
}

// P7.1: a list has MaxPlaced elements and no more, whichever way it is filled; what is there is told ahead of that.
func TestFull(t *testing.T) {
	n := api.MaxPlaced
	mixed := upTo(n)
	dice(1).Shuffle(n, func(i, j int) { mixed[i], mixed[j] = mixed[j], mixed[i] })
	falling := upTo(n)
	slices.Reverse(falling)
	for _, order := range [][]int{upTo(n), falling, mixed} {
		l := newList(t, rising, order...)
		for _, x := range []int{-1, n, n + 1} {
			if e := l.Put(x); e != api.ErrLong {
				t.Error(x, e)
			}
		}
		for _, x := range []int{0, n / 2, n - 1} {
			if e := l.Put(x); e != api.ErrTwice {
				t.Error(x, e)
			}
		}
		holds(t, l, upTo(n)...)
		for _, x := range []int{0, 1, n / 2, n - 2, n - 1} {
			if got, ok := l.At(x); got != x || !ok || l.Rank(x) != x || !l.Has(x) {
				t.Error(x, got, ok, l.Rank(x))
			}
		}
		if !l.Drop(n/2) || l.Len() != n-1 || l.Put(n) != api.OK || l.Put(n/2) != api.ErrLong || !l.Drop(0) || l.Put(n/2) != api.OK {
			t.Error("a full list did not get room again")
		}
		holds(t, l, upTo(n + 1)[1:]...)
	}
}

// P7.1, P7.2, P7.4: every list of few elements, put in every order, tells at every key what its elements do; so it does when any one is dropped.
func TestFew(t *testing.T) {
	keys := upTo(11)
	var grow func(h *heap)
	grow = func(h *heap) {
		l := newList(t, byKey, h.l...)
		agree(t, l, h, keys)
		for i := range h.l {
			l, h := newList(t, byKey, h.l...), &heap{byKey, slices.Clone(h.l)}
			x := card{h.l[i].key, -1}
			if l.Drop(x) != h.drop(x) {
				t.Error(h.l, x)
			}
			agree(t, l, h, keys)
		}
		for k := 1; k < len(keys) && len(h.l) < 4; k += 2 {
			next := &heap{byKey, slices.Clone(h.l)}
			if next.put(card{k, len(h.l)}) == api.OK {
				grow(next)
			}
		}
	}
	grow(&heap{less: byKey})
}

// P7.4: of any script of Puts and Drops All tells what was put and not dropped, and everything else agrees with it.
func TestScripts(t *testing.T) {
	falling := func(a, b card) bool { return a.key > b.key }
	rough := func(a, b card) bool { return a.key/3 < b.key/3 } // several keys are one
	for i, less := range []func(a, b card) bool{byKey, falling, rough} {
		r := dice(uint64(10 + i))
		for _, size := range []int{4, 20, 60} {
			l, h := newList(t, less), &heap{less: less}
			for step := range 400 {
				x := card{r.IntN(size), step}
				if r.IntN(2) == 0 {
					if got, want := l.Put(x), h.put(x); got != want {
						t.Fatalf("Put(%v): %d; want %d", x, got, want)
					}
				} else if got, want := l.Drop(x), h.drop(x); got != want {
					t.Fatalf("Drop(%v): %t; want %t", x, got, want)
				}
				agree(t, l, h, []int{-1, x.key - 1, x.key, x.key + 1, size})
				if t.Failed() {
					t.FailNow()
				}
			}
		}
	}
}

// P7.4: At(Rank(x)) is one with x, if x is there.
func TestAtRank(t *testing.T) {
	r := dice(2)
	l := newList(t, byKey)
	for i := range 1000 {
		l.Put(card{r.IntN(5000), i})
	}
	seen := 0
	for k := range 5000 {
		x, ok := l.At(l.Rank(card{k, -1}))
		if has := l.Has(card{k, -1}); has != (ok && x.key == k) {
			t.Error(k, x, ok, has)
		} else if has {
			seen++
		}
	}
	if seen != l.Len() {
		t.Error(seen, l.Len())
	}
}

// P7.1: elements are of any type, also of those that can't be compared, or take no room.
func TestAnyType(t *testing.T) {
	words := newList(t, func(a, b string) bool { return strings.ToLower(a) < strings.ToLower(b) }, "b", "C", "a")
	holds(t, words, "a", "b", "C")
	if words.Put("c") != api.ErrTwice || !words.Drop("B") {
		t.Error(all(t, words))
	}
	lists := newList(t, func(a, b []int) bool { return slices.Compare(a, b) < 0 }, []int{2}, nil, []int{1, 5}, []int{1})
	if got := slices.Concat(all(t, lists)...); !slices.Equal(got, []int{1, 1, 5, 2}) || lists.Len() != 4 || lists.Put([]int{}) != api.ErrTwice {
		t.Error(got)
	}
	functions := newList(t, func(a, b func() int) bool { return a() < b() }, func() int { return 2 }, func() int { return 1 })
	if f, ok := functions.At(0); !ok || f() != 1 || functions.Rank(func() int { return 2 }) != 1 {
		t.Error(ok)
	}
	if f, ok := functions.At(2); f != nil || ok {
		t.Error(ok)
	}
	anything := newList(t, func(a, b any) bool { return a.(int) < b.(int) }, any(2), any(1))
	if x, ok := anything.At(1); x != any(2) || !ok {
		t.Error(x, ok)
	}
	nothings := newList(t, func(a, b struct{}) bool { return false }, struct{}{})
	if nothings.Put(struct{}{}) != api.ErrTwice || nothings.Len() != 1 || !nothings.Drop(struct{}{}) || nothings.Len() != 0 {
		t.Error(nothings.Len())
	}
	pairs := newList(t, func(a, b [2]int) bool { return a[1] < b[1] }, [2]int{1, 9}, [2]int{2, 8})
	holds(t, pairs, [2]int{2, 8}, [2]int{1, 9})
}

// P7.1: two lists know nothing of one another, also of one order.
func TestTwoLists(t *testing.T) {
	a, b := newList(t, rising, 1, 2, 3), newList(t, rising, 2)
	a.Drop(2)
	put(t, b, 7)
	holds(t, a, 1, 3)
	holds(t, b, 2, 7)
}
