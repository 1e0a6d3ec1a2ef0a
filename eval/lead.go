package eval

import (
	"slices"

	"espalier/api"
)

// lead is the nodes to which a query leads from a place.
func (x *Index) lead(p plan, from int) set {
	nodes := x.none()
	for _, t := range p {
		nodes.add(x.end(t, from))
	}
	nodes.drop(document)
	return nodes
}

// end is the last places of a path that is asked at a place.
func (x *Index) end(t *trail, from int) set {
	return x.follow(t, 0, x.only(t.begin(from)))
}

// begin is where a path begins that is asked at a place.
func (t *trail) begin(from int) int {
	if t.abs {
		return document
	}
	return from
}

// follow is the last places of a path that goes on from some places with a step. If that is one place, it may come there again: so it is kept.
func (x *Index) follow(t *trail, k int, from set) set {
	if k == len(t.steps) {
		return from
	}
	i, one := from.one()
	if end, ok := t.known[k][i]; one && ok {
		return end
	}
	end := x.follow(t, k+1, x.next(t.steps[k], from))
	if one {
		t.known[k][i] = end
	}
	return end
}

// next is the places to which a step leads from some places: from all at once, unless it goes by turns.
func (x *Index) next(s *step, from set) set {
	if !s.turns {
		return x.filtered(s, x.along(s, from))
	}
	places := x.none()
	for i := range from.all() {
		places.add(x.turn(s, i))
	}
	return places
}

// filtered drops those of some places at which a predicate of a step does not hold that does not go by turns.
func (x *Index) filtered(s *step, places set) set {
	for _, p := range s.preds {
		for i := range places.all() {
			if !x.holds(p, spot{place: i}) {
				places.drop(i)
			}
		}
	}
	return places
}

// turn is the places to which a step leads from one place.
func (x *Index) turn(s *step, from int) set {
	if places, ok := s.known[from]; ok {
		return places
	}
	turn := slices.Collect(x.along(s, x.only(from)).all())
	if goesBack(s.axis) {
		slices.Reverse(turn)
	}
	for _, p := range s.preds {
		turn = x.kept(p, turn)
	}
	s.known[from] = x.only(turn...)
	return s.known[from]
}

// kept is those of a turn at which a predicate holds.
func (x *Index) kept(p *pred, turn []int) []int {
	var list []int
	for k, i := range turn {
		if x.holds(p, spot{place: i, position: k + 1, last: len(turn)}) {
			list = append(list, i)
		}
	}
	return list
}

// goesBack tells whether the turn of an axis goes against document order.
func goesBack(axis int) bool {
	switch axis {
	case api.ParentAxis, api.AncestorAxis, api.AncestorOrSelfAxis, api.PrecedingAxis, api.PrecedingSiblingAxis:
		return true
	}
	return false
}
