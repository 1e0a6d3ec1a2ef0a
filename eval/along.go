package eval

import (
	"cmp"
	"slices"

	"espalier/api"
	"espalier/axis"
	"espalier/join"
)

// along is the places on a step's axis, of any of some places, that its test lets by.
func (x *Index) along(s *step, from set) set {
	switch s.axis {
	case api.ChildAxis:
		return x.within(s, from, true)
	case api.DescendantAxis:
		return x.within(s, from, false)
	case api.DescendantOrSelfAxis:
		return orSelf(s, from, x.within(s, from, false))
	case api.ParentAxis:
		return x.around(s, from, true)
	case api.AncestorAxis:
		return x.around(s, from, false)
	case api.AncestorOrSelfAxis:
		return orSelf(s, from, x.around(s, from, false))
	case api.FollowingAxis:
		return x.beside(s, x.endsFirst(from), axis.Following)
	case api.PrecedingAxis:
		return x.beside(s, x.beginsLast(from), axis.Preceding)
	case api.FollowingSiblingAxis:
		return x.siblings(s, from, axis.FollowingSibling)
	case api.PrecedingSiblingAxis:
		return x.siblings(s, from, axis.PrecedingSibling)
	}
	return s.lets.shared(from)
}

// orSelf puts to some places those of from that the step's test lets by.
func orSelf(s *step, from, places set) set {
	places.add(s.lets.shared(from))
	return places
}

// within is what lies in (direct: right in) one of from. The document is held against each by itself: its labels are none that can be joined.
func (x *Index) within(s *step, from set, direct bool) set {
	places := x.none()
	if outer := x.placed(from); len(outer) > 0 {
		// What begins elsewhere need not be gone through.
		near := cut(s.list, outer[0].Span.Begin, lastEnd(outer))
		inner, _ := join.Inner(outer, near, direct)
		x.mark(places, inner)
	}
	if from.has(document) {
		for i := range s.lets.all() {
			if isAround(wholeSpan(), x.nodes[i].Span, direct) {
				places.put(i)
			}
		}
	}
	return places
}

// around is what is around (direct: right around) one of from.
func (x *Index) around(s *step, from set, direct bool) set {
	places := x.none()
	inner := x.placed(from)
	if len(inner) > 0 {
		near := cut(s.list, 0, inner[len(inner)-1].Span.Begin)
		outer, _ := join.Outer(near, inner, direct)
		x.mark(places, outer)
	}
	in := func(p api.Placed) bool { return isAround(wholeSpan(), p.Span, direct) }
	if s.lets.has(document) && slices.ContainsFunc(inner, in) {
		places.put(document)
	}
	return places
}

func isAround(a, b api.Span, direct bool) bool {
	if direct {
		return axis.Parent(a, b)
	}
	return axis.Ancestor(a, b)
}

// placed is the nodes of a set, with their labels; the document is none.
func (x *Index) placed(s set) []api.Placed {
	var list []api.Placed
	for i := range s.all() {
		if i != document {
			list = append(list, x.nodes[i].Placed)
		}
	}
	return list
}

// lastEnd is the label behind which none of a list ends.
func lastEnd(list []api.Placed) uint64 {
	last := uint64(0)
	for _, p := range list {
		last = max(last, p.Span.End)
	}
	return last
}

// cut is those of a list that begin from one label up to another one.
func cut(list []api.Placed, from, to uint64) []api.Placed {
	ahead := func(label uint64) int {
		n, _ := slices.BinarySearchFunc(list, label, func(p api.Placed, label uint64) int {
			return cmp.Compare(p.Span.Begin, label)
		})
		return n
	}
	return list[ahead(from):ahead(to)]
}

// beside is what lies so to a span.
func (x *Index) beside(s *step, to api.Span, lies func(a, b api.Span) bool) set {
	places := x.none()
	for i := range s.lets.all() {
		if lies(x.nodes[i].Span, to) {
			places.put(i)
		}
	}
	return places
}

// endsFirst is the span of which all comes behind that comes behind any of some places; of none the document's, behind which nothing comes.
func (x *Index) endsFirst(from set) api.Span {
	first := wholeSpan()
	for i := range from.all() {
		if s := x.nodes[i].Span; s.End < first.End {
			first = s
		}
	}
	return first
}

// beginsLast is the span ahead of which all ends that ends ahead of any of some places; of none the document's.
func (x *Index) beginsLast(from set) api.Span {
	last := wholeSpan()
	for i := range from.all() {
		last = x.nodes[i].Span
	}
	return last
}

// siblings is what lies so to a sibling among from. Of the children of one parent only the first and the last matter: what comes behind one of them comes behind the first, what ends ahead of one ends ahead of the last. Where there is none, there is the document, which is nobody's sibling.
func (x *Index) siblings(s *step, from set, lies func(a, b, parent api.Span, root bool) bool) set {
	first, last := make([]int, len(x.nodes)), make([]int, len(x.nodes))
	for i := range from.all() {
		parent := x.nodes[i].parent
		if first[parent] == document {
			first[parent] = i
		}
		last[parent] = i
	}
	places := x.none()
	for i := range s.lets.all() {
		n := x.nodes[i]
		parent := x.nodes[n.parent].Span
		for _, k := range []int{first[n.parent], last[n.parent]} {
			if lies(n.Span, x.nodes[k].Span, parent, false) {
				places.put(i)
			}
		}
	}
	return places
}
