package eval

import "espalier/api"

// leads tells whether a query leads to a node from a place.
func (x *Index) leads(p plan, from int) bool {
	for _, t := range p {
		if x.startsAt(t, t.begin(from)) {
			return true
		}
	}
	return false
}

// startsAt tells whether a path leads to a node from a place. Of one that goes by turns that is asked of the place alone, as turns of all places may be long.
func (x *Index) startsAt(t *trail, from int) bool {
	if !t.turns {
		return x.starts(t).has(from)
	}
	for i := range x.end(t, from).all() {
		if i != document {
			return true
		}
	}
	return false
}

// starts is all places from which a path leads to a node, found by going it from its end.
func (x *Index) starts(t *trail) set {
	if t.starts != nil {
		return t.starts
	}
	places := x.every()
	places.drop(document)
	for k := len(t.steps) - 1; k >= 0; k-- {
		places = x.before(t.steps[k], places)
	}
	t.starts = places
	return places
}

// before is the places from which a step, which does not go by turns, leads to one of some places.
func (x *Index) before(s *step, to set) set {
	back := &step{axis: turnedAbout(s.axis), list: x.all(), lets: x.every()}
	return x.along(back, x.filtered(s, s.lets.shared(to)))
}

// every is all places.
func (x *Index) every() set {
	s := x.none()
	for i := range x.nodes {
		s.put(i)
	}
	return s
}

// turnedAbout is the axis on which one node lies of another one, if that lies on an axis of the one.
func turnedAbout(axis int) int {
	switch axis {
	case api.ChildAxis:
		return api.ParentAxis
	case api.DescendantAxis:
		return api.AncestorAxis
	case api.DescendantOrSelfAxis:
		return api.AncestorOrSelfAxis
	case api.ParentAxis:
		return api.ChildAxis
	case api.AncestorAxis:
		return api.DescendantAxis
	case api.AncestorOrSelfAxis:
		return api.DescendantOrSelfAxis
	case api.FollowingAxis:
		return api.PrecedingAxis
	case api.PrecedingAxis:
		return api.FollowingAxis
	case api.FollowingSiblingAxis:
		return api.PrecedingSiblingAxis
	case api.PrecedingSiblingAxis:
		return api.FollowingSiblingAxis
	}
	return axis
}
