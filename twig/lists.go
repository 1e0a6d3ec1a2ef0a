package twig

import (
	"cmp"
	"slices"

	"espalier/api"
	"espalier/axis"
)

// fitting is a pattern's places; or why it can't be, or why the lists can't be its lists.
func fitting(t api.Twig, lists [][]api.Placed) ([]place, api.Errno) {
	ps, e := places(t)
	if e != api.OK {
		return nil, e
	}
	if len(lists) != len(ps) {
		return nil, api.ErrArg
	}
	if e := wrong(lists); e != api.OK {
		return nil, e
	}
	return ps, api.OK
}

// wrong tells why lists can't be, list by list, and then all together.
func wrong(lists [][]api.Placed) api.Errno {
	for _, l := range lists {
		if len(l) > api.MaxNodes {
			return api.ErrLong
		}
		if e := rises(l); e != api.OK {
			return e
		}
	}
	if cross(lists) {
		return api.ErrNest
	}
	return api.OK
}

// rises tells what is wrong with the first wrong one of a list. A span that can be is itself: by that axis tells whether it can.
func rises(l []api.Placed) api.Errno {
	for i, x := range l {
		if _, e := axis.Relation(x.Span, x.Span); e != api.OK {
			return e
		}
		if i > 0 && x.Span.Begin <= l[i-1].Span.Begin {
			return api.ErrOrder
		}
	}
	return api.OK
}

// cross tells whether two spans of any of the lists cross. Those that are open lie in one another: what lies in the last one lies in all.
func cross(lists [][]api.Placed) bool {
	all := slices.Concat(lists...)
	slices.SortFunc(all, func(x, y api.Placed) int { return cmp.Compare(x.Span.Begin, y.Span.Begin) })
	var open []api.Span
	for _, x := range all {
		for len(open) > 0 && axis.Preceding(open[len(open)-1], x.Span) {
			open = open[:len(open)-1]
		}
		if n := len(open); n > 0 && open[n-1] != x.Span && !axis.Ancestor(open[n-1], x.Span) {
			return true
		}
		open = append(open, x.Span)
	}
	return false
}

// Lists is the lists of a pattern, of nodes and their names.
func Lists(t api.Twig, nodes []api.Placed, name func(n api.Handle) string) ([][]api.Placed, api.Errno) {
	ps, e := places(t)
	if e != api.OK {
		return nil, e
	}
	if name == nil {
		return nil, api.ErrArg
	}
	if e := wrong([][]api.Placed{nodes}); e != api.OK {
		return nil, e
	}
	lists := make([][]api.Placed, len(ps))
	// A copy is gone through: name is not the program's own, and may write into the list.
	all := slices.Clone(nodes)
	fine := runs(func() {
		for _, x := range all {
			shelve(lists, ps, x, name(x.Node))
		}
	})
	if !fine {
		return nil, api.ErrPanic
	}
	return lists, api.OK
}

// shelve puts a node into the lists of all places at which one of its name may stand.
func shelve(lists [][]api.Placed, ps []place, x api.Placed, name string) {
	for i, p := range ps {
		if p.name == "" || p.name == name {
			lists[i] = append(lists[i], x)
		}
	}
}

// runs calls what was handed in; false, if it panicked, and so did not come to its end.
func runs(call func()) (fine bool) {
	defer func() { recover() }()
	call()
	return true
}
