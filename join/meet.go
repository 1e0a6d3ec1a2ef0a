package join

import "espalier/api"

// through goes through both lists at once, by where their nodes begin, and tells their places. Of two that begin as one, which are one node, that of d comes first: so it does not find itself open.
func through(a, d []api.Placed, outer, inner func(place int)) {
	k := 0
	for i, x := range d {
		for ; k < len(a) && a[k].Span.Begin < x.Span.Begin; k++ {
			outer(k)
		}
		inner(i)
	}
	for ; k < len(a); k++ {
		outer(k)
	}
}

// meet tells of each of d, by its place, which of a join with it: their places, each around the one behind it.
// What is open stands on a stack. If direct, each level has one of its own, for what may be right around a node of that level, so that nobody looks at what does not join.
func meet(a, d []api.Placed, direct bool, tell func(i int, open []int)) {
	var stacks [api.MaxDepth + 1][]int
	at := func(level int) int {
		if direct {
			return level
		}
		return 0
	}
	through(a, d, func(k int) {
		s := at(a[k].Span.Level + 1)
		stacks[s] = append(notEnded(a, stacks[s], a[k].Span.Begin), k)
	}, func(i int) {
		s := at(d[i].Span.Level)
		stacks[s] = notEnded(a, stacks[s], d[i].Span.Begin)
		tell(i, stacks[s])
	})
}

// notEnded is those of the open ones, places in a, that do not end ahead of a label. Begins rise, so what has ended there plays no part any more.
func notEnded(a []api.Placed, open []int, label uint64) []int {
	for len(open) > 0 && a[open[len(open)-1]].Span.End < label {
		open = open[:len(open)-1]
	}
	return open
}

// counts is of each of a with how many of d it joins.
func counts(a, d []api.Placed, direct bool) []int {
	n := make([]int, len(a))
	meet(a, d, direct, func(_ int, open []int) {
		for _, k := range open {
			n[k]++
		}
	})
	return n
}
