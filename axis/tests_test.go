package axis_test

import (
	"math"
	"testing"

	"espalier/api"
	"espalier/axis"
)

// The document's first example.
func TestExample(t *testing.T) {
	a, b, c := sp(1, 10, 0), sp(2, 5, 1), sp(3, 4, 2)
	if !axis.Ancestor(a, c) || axis.Parent(a, c) {
		t.Error(axis.Ancestor(a, c), axis.Parent(a, c))
	}
	if n, e := axis.Relation(b, a); n != 3 || e != api.OK {
		t.Error(n, e)
	}
}

// P9.1: what each test says of a few pairs, by hand.
func TestByHand(t *testing.T) {
	a, b := sp(10, 20, 3), sp(12, 15, 4)
	for i, x := range []struct {
		is   func(a, b api.Span) bool
		a, b api.Span
		want bool
	}{
		{axis.Self, a, a, true},
		{axis.Self, a, sp(10, 20, 9), true}, // levels play no part
		{axis.Self, a, sp(10, 21, 3), false},
		{axis.Self, a, sp(11, 20, 3), false},
		{axis.Ancestor, a, b, true},
		{axis.Ancestor, b, a, false},
		{axis.Ancestor, a, a, false},
		{axis.Ancestor, a, sp(10, 15, 4), false}, // one of the ends is shared
		{axis.Ancestor, a, sp(12, 20, 4), false},
		{axis.Ancestor, a, sp(11, 19, -7), true},
		{axis.Descendant, b, a, true},
		{axis.Descendant, a, b, false},
		{axis.Parent, a, b, true},
		{axis.Parent, b, a, false},
		{axis.Parent, a, sp(12, 15, 5), false},
		{axis.Parent, a, sp(12, 15, 3), false},
		{axis.Parent, a, sp(12, 15, 2), false},
		{axis.Parent, a, sp(22, 25, 4), false},
		{axis.Parent, sp(10, 20, math.MaxInt), sp(12, 15, math.MinInt), false}, // nothing wraps
		{axis.Parent, sp(10, 20, math.MaxInt-1), sp(12, 15, math.MaxInt), true},
		{axis.Parent, sp(10, 20, math.MinInt), sp(12, 15, math.MinInt+1), true},
		{axis.Parent, sp(10, 20, math.MinInt), sp(12, 15, math.MaxInt), false},
		{axis.Parent, sp(10, 20, -1), sp(12, 15, 0), true},
		{axis.Child, b, a, true},
		{axis.Child, a, b, false},
		{axis.Child, sp(12, 15, math.MinInt), sp(10, 20, math.MaxInt), false},
		{axis.Following, sp(21, 22, 0), a, true},
		{axis.Following, sp(20, 22, 0), a, false},
		{axis.Following, a, sp(21, 22, 0), false},
		{axis.Following, sp(21, 2, 0), a, true}, // where it ends plays no part
		{axis.Preceding, sp(8, 9, 0), a, true},
		{axis.Preceding, sp(8, 10, 0), a, false},
		{axis.Preceding, a, sp(8, 9, 0), false},
		{axis.Preceding, sp(30, 9, 0), a, true},
		{axis.Following, sp(math.MaxUint64, 0, 0), sp(0, math.MaxUint64-1, 0), true},
		{axis.Preceding, sp(0, 0, 0), sp(math.MaxUint64, 0, 0), true},
		{axis.Self, api.Span{}, api.Span{}, true},
		{axis.Following, api.Span{}, api.Span{}, false},
	} {
		if got := x.is(x.a, x.b); got != x.want {
			t.Errorf("%d: of %v, %v: %t", i, x.a, x.b, got)
		}
	}
}

// P9.1: of any two spans, also of those that can't be, each test is what the chapter says.
func TestAnyTwo(t *testing.T) {
	l := edges()
	for _, x := range tests() {
		seen := 0
		for _, a := range l {
			for _, b := range l {
				want := x.want(a, b)
				if got := x.is(a, b); got != want {
					t.Fatalf("%s of %v, %v: %t", x.name, a, b, got)
				}
				if want {
					seen++
				}
			}
		}
		if seen == 0 || seen == len(l)*len(l) {
			t.Error(x.name, seen)
		}
	}
}

// P9.2: by hand.
func TestSiblingsByHand(t *testing.T) {
	p, a, b, in := sp(1, 20, 4), sp(2, 5, 5), sp(10, 15, 5), sp(11, 12, 6)
	r, s := sp(1, 5, 0), sp(6, 8, 0)
	for i, x := range []struct {
		a, b, parent        api.Span
		root                bool
		following, preceded bool
	}{
		{b, a, p, false, true, false},
		{a, b, p, false, false, true},
		{a, a, p, false, false, false},
		{in, a, p, false, false, false}, // it lies deeper
		{a, in, p, false, false, false},
		{b, a, sp(1, 20, 3), false, false, false},
		{b, a, sp(1, 15, 4), false, false, false}, // it is around one alone
		{b, a, sp(2, 20, 4), false, false, false},
		{sp(25, 30, 5), a, p, false, false, false}, // a child of another one
		{a, sp(25, 30, 5), p, false, false, false},
		{b, a, p, true, false, false}, // no roots
		{s, r, p, true, true, false},
		{r, s, p, true, false, true},
		{s, r, api.Span{}, true, true, false},
		{r, r, api.Span{}, true, false, false},
		{s, r, api.Span{}, false, false, false},
		{s, r, sp(0, 20, -1), false, true, false}, // by the numbers as they are
		{r, s, sp(0, 20, -1), false, false, true},
		{sp(6, 8, 1), r, p, true, false, false},
		{s, sp(1, 5, 1), p, true, false, false},
		{s, sp(1, 5, -1), p, true, false, false},
		{sp(6, 8, math.MinInt), sp(2, 3, math.MinInt), sp(1, 10, math.MaxInt), false, false, false},
	} {
		if got := axis.FollowingSibling(x.a, x.b, x.parent, x.root); got != x.following {
			t.Errorf("%d: FollowingSibling: %t", i, got)
		}
		if got := axis.PrecedingSibling(x.a, x.b, x.parent, x.root); got != x.preceded {
			t.Errorf("%d: PrecedingSibling: %t", i, got)
		}
	}
}

// P9.2: of any three spans each is what the chapter says.
func TestSiblingsAny(t *testing.T) {
	l := every([]uint64{0, 1, 2, 3}, []int{math.MinInt, -1, 0, 1, math.MaxInt})
	parent := func(a, b api.Span) bool { return around(a, b) && oneMore(a.Level, b.Level) }
	seen := [4]int{}
	for _, p := range l {
		for _, a := range l {
			for _, b := range l {
				kin := parent(p, a) && parent(p, b)
				roots := a.Level == 0 && b.Level == 0
				behind, ahead := a.Begin > b.End, a.End < b.Begin
				for i, x := range []struct{ got, want bool }{
					{axis.FollowingSibling(a, b, p, false), behind && kin},
					{axis.PrecedingSibling(a, b, p, false), ahead && kin},
					{axis.FollowingSibling(a, b, p, true), behind && roots},
					{axis.PrecedingSibling(a, b, p, true), ahead && roots},
				} {
					if x.got != x.want {
						t.Fatalf("%d: of %v, %v in %v: %t", i, a, b, p, x.got)
					}
					if x.want {
						seen[i]++
					}
				}
			}
		}
	}
	for i, n := range seen {
		if n == 0 {
			t.Errorf("%d: never true", i)
		}
	}
}

// wantRelation is the chapter's words: the first of the seven that is true.
func wantRelation(a, b api.Span) (int, api.Errno) {
	if !possible(a) || !possible(b) {
		return 0, 110
	}
	for _, x := range tests() {
		if x.want(a, b) {
			return x.number, api.OK
		}
	}
	return 0, 111
}

// P9.3: of any two spans.
func TestRelationAny(t *testing.T) {
	seen := map[int]int{}
	l := append(edges(), every([]uint64{1, 2, 3, 4, 5, 1<<62 - 2}, []int{0, 1, 2, 61, 62, 63})...)
	for _, a := range l {
		for _, b := range l {
			want, why := wantRelation(a, b)
			if n, e := axis.Relation(a, b); n != want || e != why {
				t.Fatalf("Relation of %v, %v: %d, %d; want %d, %d", a, b, n, e, want, why)
			}
			seen[want+int(why)]++
		}
	}
	if len(seen) != 9 {
		t.Error(seen)
	}
}

// P9.3: by hand.
func TestRelationByHand(t *testing.T) {
	a := sp(10, 20, 3)
	for i, x := range []struct {
		a, b api.Span
		want int
		why  api.Errno
	}{
		{a, a, api.IsSelf, api.OK},
		{a, sp(10, 20, 5), api.IsSelf, api.OK},
		{a, sp(12, 14, 4), api.IsParent, api.OK},
		{sp(12, 14, 4), a, api.IsChild, api.OK},
		{a, sp(12, 14, 5), api.IsAncestor, api.OK},
		{a, sp(12, 14, 3), api.IsAncestor, api.OK},
		{sp(12, 14, 5), a, api.IsDescendant, api.OK},
		{sp(21, 24, 0), a, api.IsFollowing, api.OK},
		{sp(1, 9, 0), a, api.IsPreceding, api.OK},
		{sp(1, 5, 0), sp(3, 8, 0), 0, api.ErrNest}, // the document's second example
		{sp(3, 8, 0), sp(1, 5, 0), 0, api.ErrNest},
		{sp(20, 24, 0), a, 0, api.ErrNest},
		{sp(1, 10, 0), a, 0, api.ErrNest},
		{sp(10, 24, 0), a, 0, api.ErrNest},
		{sp(1, 20, 2), a, 0, api.ErrNest},
		{sp(0, 30, 2), a, 0, api.ErrSpan},
		{a, sp(0, 30, 2), 0, api.ErrSpan},
		{sp(10, 10, 3), a, 0, api.ErrSpan},
		{sp(11, 10, 3), a, 0, api.ErrSpan},
		{a, sp(12, 14, -1), 0, api.ErrSpan},
		{a, sp(12, 14, 64), 0, api.ErrSpan},
		{a, sp(12, 14, 63), api.IsAncestor, api.OK},
		{sp(1, 1<<62, 2), a, 0, api.ErrSpan},
		{sp(1, 1<<62-1, 2), a, api.IsParent, api.OK},
		{sp(math.MaxUint64-1, math.MaxUint64, 2), a, 0, api.ErrSpan},
		{sp(1, 12, -1), a, 0, api.ErrSpan}, // ahead of ErrNest
		{api.Span{}, api.Span{}, 0, api.ErrSpan},
	} {
		if n, e := axis.Relation(x.a, x.b); n != x.want || e != x.why {
			t.Errorf("%d: Relation of %v, %v: %d, %d; want %d, %d", i, x.a, x.b, n, e, x.want, x.why)
		}
	}
}
