package twig

import (
	"math/bits"
	"slices"

	"espalier/api"
	"espalier/join"
)

// number is how many there are, if that is below 2^64; else it is over, and low means nothing. Its zero value is none.
type number struct {
	low  uint64
	over bool
}

func (a number) plus(b number) number {
	low, carry := bits.Add64(a.low, b.low, 0)
	return number{low, a.over || b.over || carry > 0}
}

// times: nothing, however often, is nothing; so what is over in one branch plays no part, if another branch has nothing.
func (a number) times(b number) number {
	if a.none() || b.none() {
		return number{}
	}
	high, low := bits.Mul64(a.low, b.low)
	return number{low, a.over || b.over || high > 0}
}

func (a number) none() bool { return a == number{} }

func (a number) above(n int) bool { return a.over || a.low > uint64(n) }

func total(l []number) number {
	var sum number
	for _, n := range l {
		sum = sum.plus(n)
	}
	return sum
}

// weigh is, of each node of each list, how many matches it has of the part of the pattern that begins at its place. A place comes behind the one above it: backwards each is whole when it is handed up.
func weigh(ps []place, lists [][]api.Placed) [][]number {
	w := make([][]number, len(ps))
	for i, l := range lists {
		w[i] = slices.Repeat([]number{{low: 1}}, len(l))
	}
	for i := len(ps) - 1; i > 0; i-- {
		above := ps[i].above
		for k, n := range sums(ps[i], lists[above], lists[i], w[i]) {
			w[above][k] = w[above][k].times(n)
		}
	}
	return w
}

// sums is, of each of a, what those of d that may stand at the place under it weigh together. Each of d is told to the innermost of a alone, which hands its sum on to the next one around it: so the pairs are never gone through one by one.
func sums(p place, a, d []api.Placed, w []number) []number {
	sum := make([]number, len(a))
	inner := parted(numbered(d), p.group)
	for g, outer := range parted(numbered(a), p.groupUnder) {
		for _, x := range nearest(outer, inner[g]) {
			sum[x.Outer] = sum[x.Outer].plus(w[x.Inner])
		}
		for _, x := range slices.Backward(nearest(outer, outer)) {
			sum[x.Outer] = sum[x.Outer].plus(sum[x.Inner])
		}
	}
	return sum
}

// nearest is what join tells of lists that were looked at ahead, so that it has nothing to refuse.
func nearest(a, d []api.Placed) []api.Pair {
	l, _ := join.Nearest(a, d)
	return l
}

// numbered is a list with its places in the handles' stead: handles may be anything, and need not tell nodes apart.
func numbered(l []api.Placed) []api.Placed {
	out := make([]api.Placed, len(l))
	for i, x := range l {
		out[i] = api.Placed{Node: api.Handle(i), Span: x.Span}
	}
	return out
}

// parted is a list by groups, in each in its order.
func parted(l []api.Placed, group func(api.Span) int) [api.MaxDepth + 1][]api.Placed {
	var parts [api.MaxDepth + 1][]api.Placed
	for _, x := range l {
		g := group(x.Span)
		parts[g] = append(parts[g], x)
	}
	return parts
}
