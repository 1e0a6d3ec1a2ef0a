package naive

import (
	"iter"
	"slices"

	"espalier/api"
	"espalier/tree"
	"espalier/walk"
)

// document is the document where a handle of a node may stand, and its place.
const document = 0

// walker goes through a document for one question. It keeps what it has found out: predicates ask the same things at the same places again and again, and in one another that would have no end.
type walker struct {
	*tree.Doc
	nodes  []api.Handle       // by places: the document, then all nodes in document order
	places map[api.Handle]int // the place of each in that list
	heres  map[int]api.Here   // by places: what expressions are told of them
	known  map[matter]set     // of paths and steps: where they lead
	truths map[matter]verdict // of predicates: whether they hold
}

// matter is a path, a step or a predicate, by its number, at a place.
type matter struct{ number, at int }

func walkerOf(d *tree.Doc) *walker {
	all, _ := d.All(document)
	w := &walker{
		Doc:    d,
		nodes:  append([]api.Handle{document}, all...),
		places: make(map[api.Handle]int, len(all)+1),
		heres:  map[int]api.Here{},
		known:  map[matter]set{},
		truths: map[matter]verdict{},
	}
	for at, n := range w.nodes {
		w.places[n] = at
	}
	return w
}

// lead is the nodes to which a query leads from a place.
func (w *walker) lead(q api.Query, from int) set {
	nodes := w.none()
	for _, p := range q.Paths {
		nodes.add(w.end(p, from))
	}
	nodes.drop(document)
	return nodes
}

// end is the last places of a path that is asked at a place.
func (w *walker) end(p api.Path, from int) set {
	if p.Abs {
		from = document
	}
	return w.once(matter{p.At, from}, func() set {
		places := w.only(from)
		for _, s := range p.Steps {
			places = w.next(s, places)
		}
		return places
	})
}

// next is the places to which a step leads from all of some places.
func (w *walker) next(s api.Step, from set) set {
	places := w.none()
	for at := range from.all() {
		places.add(w.once(matter{s.At, at}, func() set { return w.only(w.turn(s, at)...) }))
	}
	return places
}

// once is where something leads, which is found out when it is asked for the first time.
func (w *walker) once(m matter, find func() set) set {
	places, ok := w.known[m]
	if !ok {
		places = find()
		w.known[m] = places
	}
	return places
}

// turn is the places to which a step leads from one place, in their turn.
func (w *walker) turn(s api.Step, from int) []int {
	var turn []int
	for n := range w.along(s.Axis, w.nodes[from]) {
		// Of the document, which is no node, there is nothing to get: so it has no kind.
		if x, _ := w.Get(n); passes(s, x) {
			turn = append(turn, w.places[n])
		}
	}
	for _, e := range s.Preds {
		turn = w.kept(e, turn)
	}
	return turn
}

// passes tells whether a step's test lets by a node, or what has no kind: the document.
func passes(s api.Step, x api.Tree) bool {
	switch s.Test {
	case api.TestName:
		return x.Kind == api.Element && x.Name == s.Name
	case api.TestAny:
		return x.Kind == api.Element
	case api.TestText:
		return x.Kind == api.Text
	}
	return true
}

// along is what lies on an axis of a node, or of the document, in its order; the document lies there, too.
func (w *walker) along(axis int, n api.Handle) iter.Seq[api.Handle] {
	if n == document {
		return slices.Values(w.alongDocument(axis))
	}
	nodes, _ := walk.Axis(w.Doc, axis, n)
	if !w.leadsOut(axis, n) {
		return nodes
	}
	return walk.Then(nodes, slices.Values(w.nodes[:1]))
}

// leadsOut tells whether the document lies on an axis of a node.
func (w *walker) leadsOut(axis int, n api.Handle) bool {
	switch axis {
	case api.ParentAxis:
		parent, _ := w.Parent(n)
		return parent == document
	case api.AncestorAxis, api.AncestorOrSelfAxis:
		return true
	}
	return false
}

func (w *walker) alongDocument(axis int) []api.Handle {
	switch axis {
	case api.ChildAxis:
		return w.Roots()
	case api.DescendantAxis:
		return w.nodes[1:]
	case api.DescendantOrSelfAxis:
		return w.nodes
	case api.SelfAxis, api.AncestorOrSelfAxis:
		return w.nodes[:1]
	}
	return nil
}
