package twig

import (
	"cmp"
	"slices"

	"espalier/api"
	"espalier/join"
)

// cut is the lists without what stands in no match: what weighs nothing has not all under it, and what does not lie in what is left above it leads nowhere.
func cut(ps []place, lists [][]api.Placed, w [][]number) [][]api.Placed {
	left := make([][]api.Placed, len(lists))
	for i, l := range lists {
		for k, x := range l {
			if !w[i][k].none() {
				left[i] = append(left[i], x)
			}
		}
		if i > 0 {
			left[i], _ = join.Inner(left[ps[i].above], left[i], ps[i].direct)
		}
	}
	return left
}

// each tells all matches, in order, of lists that were cut: so each node that is tried stands in one, and no way ends too early.
func each(ps []place, lists [][]api.Placed, tell func(match []api.Placed)) {
	parts := make([][api.MaxDepth + 1][]api.Placed, len(ps))
	for i, p := range ps {
		parts[i] = parted(lists[i], p.group)
	}
	match := make([]api.Placed, len(ps))
	var from func(i int)
	from = func(i int) {
		if i == len(ps) {
			tell(match)
			return
		}
		may := lists[0]
		if i > 0 {
			outer := match[ps[i].above].Span
			may = within(parts[i][ps[i].groupUnder(outer)], outer)
		}
		for _, x := range may {
			match[i] = x
			from(i + 1)
		}
	}
	from(0)
}

// within is those of a list that lie in a span. As no two cross, these are those that begin in it.
func within(l []api.Placed, s api.Span) []api.Placed {
	begin := func(x api.Placed, label uint64) int { return cmp.Compare(x.Span.Begin, label) }
	from, _ := slices.BinarySearchFunc(l, s.Begin+1, begin)
	to, _ := slices.BinarySearchFunc(l, s.End, begin)
	return l[from:to]
}
