package join

import (
	"espalier/api"
	"espalier/axis"
)

// joinable tells why two lists can't be joined.
func joinable(a, d []api.Placed) api.Errno {
	if len(a) > api.MaxPlaced || len(d) > api.MaxPlaced {
		return api.ErrLong
	}
	if e := rises(a); e != api.OK {
		return e
	}
	if e := rises(d); e != api.OK {
		return e
	}
	if !nest(a, d) {
		return api.ErrNest
	}
	return api.OK
}

// rises tells what is wrong with the first wrong one of a list, whatever the others are. A span that can be is itself: by that axis tells whether it can.
func rises(l []api.Placed) api.Errno {
	for i, x := range l {
		if _, e := axis.Relation(x.Span, x.Span); e != api.OK {
			return e
		}
		if i > 0 && x.Span.Begin <= l[i-1].Span.Begin {
			return api.ErrOrder
		}
	}
	return api.OK
}

// nest tells whether no two spans of both lists cross. Those that are open lie in one another: what lies in the last one lies in all.
func nest(a, d []api.Placed) bool {
	var open []api.Span
	fine := true
	come := func(s api.Span) {
		for len(open) > 0 && axis.Preceding(open[len(open)-1], s) {
			open = open[:len(open)-1]
		}
		if n := len(open); n > 0 && open[n-1] != s && !axis.Ancestor(open[n-1], s) {
			fine = false
		}
		open = append(open, s)
	}
	through(a, d, func(k int) { come(a[k].Span) }, func(i int) { come(d[i].Span) })
	return fine
}
