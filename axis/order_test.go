package axis_test

import (
	"testing"

	"espalier/api"
	"espalier/axis"
)

// forests hands all forests of at most three spans of few labels, and some greater ones, to tell.
func forests(t *testing.T, tell func(l []api.Span)) {
	t.Helper()
	one := every([]uint64{1, 2, 3, 4, 5, 6}, []int{0, 1, 2})
	seen := 0
	var grow func(l []api.Span)
	grow = func(l []api.Span) {
		if _, e := axis.Check(l); e != api.OK {
			return
		}
		seen++
		tell(l)
		if len(l) == 3 {
			return
		}
		for _, s := range one {
			grow(append(l, s))
		}
	}
	grow(nil)
	// Six labels fit three spans in as many ways as there are forests of three nodes, of which there are 5; two of six 15 times 2; one 15 times.
	if seen != 1+15+30+5 {
		t.Errorf("%d forests", seen)
	}
	r := dice(6)
	for range 40 {
		l := forest(r, 1+r.IntN(40), 1+r.IntN(10))
		check(t, l, 0, api.OK)
		tell(l)
	}
	tell(chain(api.MaxDepth))
	tell(row(50))
}

// P9.5: just one of the five is true, turned about the opposite one.
func TestJustOne(t *testing.T) {
	forests(t, func(l []api.Span) {
		for _, a := range l {
			for _, b := range l {
				is, turned := five(a, b), five(b, a)
				n := 0
				for i, x := range is {
					if x {
						n++
					}
					if opposite := []int{0, 2, 1, 4, 3}[i]; turned[opposite] != x {
						t.Fatalf("%v, %v: %v; turned about %v", a, b, is, turned)
					}
				}
				if n != 1 || is[0] != (a == b) {
					t.Fatalf("%v, %v: %v", a, b, is)
				}
			}
		}
	})
}

func five(a, b api.Span) [5]bool {
	return [5]bool{axis.Self(a, b), axis.Ancestor(a, b), axis.Descendant(a, b), axis.Following(a, b), axis.Preceding(a, b)}
}

// P9.5: Relation knows any two spans of a forest, and turned about it is the opposite one.
func TestRelationTurned(t *testing.T) {
	forests(t, func(l []api.Span) {
		for _, a := range l {
			for _, b := range l {
				n, e := axis.Relation(a, b)
				m, why := axis.Relation(b, a)
				if e != api.OK || why != api.OK || n < 1 || n > 7 || m != []int{0, 1, 3, 2, 5, 4, 7, 6}[n] {
					t.Fatalf("%v, %v: %d, %d; turned about %d, %d", a, b, n, e, m, why)
				}
			}
		}
	})
}

// P9.7: Ancestor and Following go through a third one; what is around one that comes behind, and not around the other one, comes behind.
func TestOrder(t *testing.T) {
	seen := [3]int{}
	forests(t, func(l []api.Span) {
		for _, a := range l {
			for _, b := range l {
				for _, c := range l {
					if axis.Ancestor(a, b) && axis.Ancestor(b, c) {
						seen[0]++
						if !axis.Ancestor(a, c) {
							t.Fatal("Ancestor", a, b, c)
						}
					}
					if axis.Following(a, b) && axis.Following(b, c) {
						seen[1]++
						if !axis.Following(a, c) {
							t.Fatal("Following", a, b, c)
						}
					}
					if axis.Ancestor(a, b) && axis.Following(b, c) && !axis.Ancestor(a, c) {
						seen[2]++
						if !axis.Following(a, c) {
							t.Fatal("around what comes behind", a, b, c)
						}
					}
				}
			}
		}
	})
	for i, n := range seen {
		if n == 0 {
			t.Errorf("%d: never seen", i)
		}
	}
}
