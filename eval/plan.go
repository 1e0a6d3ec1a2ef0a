package eval

import "espalier/api"

// plan is a query made ready: its paths. What comes of them is kept as long as one question goes on: predicates ask the same things of the same places again and again.
type plan []*trail

// trail is a path made ready.
type trail struct {
	abs    bool
	steps  []*step
	turns  bool          // one of its steps goes by turns
	known  []map[int]set // by steps and places: where the path ends, if it goes on from that place with that step
	starts set           // the places from which it leads to a node; nil, if nobody has asked yet
}

// step is a step made ready.
type step struct {
	axis  int
	list  []api.Placed // the nodes that its test lets by, in document order
	lets  set          // these, and the document, if its test lets that by
	preds []*pred
	turns bool        // a predicate asks for numbers in a turn: so it goes from each place by itself
	known map[int]set // by places: where it leads from there, if it goes by turns
}

// plan makes a query ready that can be.
func (x *Index) plan(q api.Query) plan {
	var all plan
	for _, p := range q.Paths {
		all = append(all, x.trail(p))
	}
	return all
}

func (x *Index) trail(p api.Path) *trail {
	t := &trail{abs: p.Abs}
	for _, s := range p.Steps {
		r := x.step(s)
		t.steps = append(t.steps, r)
		t.turns = t.turns || r.turns
		t.known = append(t.known, map[int]set{})
	}
	return t
}

func (x *Index) step(s api.Step) *step {
	r := &step{axis: s.Axis, list: x.passing(s), lets: x.none(), known: map[int]set{}}
	if s.Test == api.TestNode {
		r.lets.put(document)
	}
	x.mark(r.lets, r.list)
	for _, e := range s.Preds {
		p := x.pred(e)
		r.preds = append(r.preds, p)
		r.turns = r.turns || p.hangs&(onPosition|onLast) != 0
	}
	return r
}

// passing is the nodes that a step's test lets by, in document order.
func (x *Index) passing(s api.Step) []api.Placed {
	switch s.Test {
	case api.TestName:
		return x.named.Of(s.Name)
	case api.TestAny:
		return x.elements
	case api.TestText:
		return x.named.Of("")
	}
	return x.all()
}

// mark puts nodes into a set.
func (x *Index) mark(s set, list []api.Placed) {
	for _, p := range list {
		s.put(x.places[p.Node])
	}
}
