package eval_test

import (
	"slices"

	"espalier/api"
	"espalier/label"
	"espalier/tree"
	"espalier/value"
)

// world is what a query means by the words (13.2, 16.1), place by place, on a list of nodes in document order; number 0 is the document itself. It knows nothing of labels.
type world struct {
	d     *tree.Doc
	nodes []thing
	at    map[api.Handle]int
}

type thing struct {
	api.Tree
	n           api.Handle
	text        string
	parent, end int // end: the number behind the last one within
}

func newWorld(d *label.Doc) *world {
	w := &world{d: d.Tree(), at: map[api.Handle]int{}}
	w.grow(0, -1, w.d.Roots())
	return w
}

func (w *world) grow(n api.Handle, parent int, kids []api.Handle) {
	at := len(w.nodes)
	x, _ := w.d.Get(n)
	s, _ := value.Of(w.d, n)
	w.at[n] = at
	w.nodes = append(w.nodes, thing{Tree: x, n: n, text: s, parent: parent})
	for _, k := range kids {
		within, _ := w.d.Kids(k)
		w.grow(k, at, within)
	}
	w.nodes[at].end = len(w.nodes)
}

// lies tells whether a place b is on an axis of a place a.
func (w *world) lies(axis, b, a int) bool {
	within := func(x, y int) bool { return x > y && x < w.nodes[y].end }
	switch axis {
	case api.ChildAxis:
		return w.nodes[b].parent == a
	case api.DescendantAxis:
		return within(b, a)
	case api.DescendantOrSelfAxis:
		return b == a || within(b, a)
	case api.ParentAxis:
		return w.nodes[a].parent == b
	case api.AncestorAxis:
		return within(a, b)
	case api.AncestorOrSelfAxis:
		return a == b || within(a, b)
	case api.FollowingAxis:
		return a > 0 && b >= w.nodes[a].end
	case api.PrecedingAxis:
		return b > 0 && b < a && !within(a, b)
	case api.FollowingSiblingAxis:
		return a > 0 && b > a && w.nodes[a].parent == w.nodes[b].parent
	case api.PrecedingSiblingAxis:
		return b > 0 && b < a && w.nodes[a].parent == w.nodes[b].parent
	}
	return a == b
}

// passes tells whether a step's test lets a place by.
func (w *world) passes(s api.Step, b int) bool {
	switch x := w.nodes[b]; s.Test {
	case api.TestName:
		return x.Kind == api.Element && x.Name == s.Name
	case api.TestAny:
		return x.Kind == api.Element
	case api.TestText:
		return x.Kind == api.Text
	}
	return b > 0 || slices.Contains([]int{api.SelfAxis, api.DescendantOrSelfAxis, api.ParentAxis, api.AncestorAxis, api.AncestorOrSelfAxis}, s.Axis)
}

// from is what a step leads to from a place, in its turn.
func (w *world) from(a int, s api.Step) []int {
	var l []int
	for b := range w.nodes {
		if w.lies(s.Axis, b, a) && w.passes(s, b) {
			l = append(l, b)
		}
	}
	if slices.Contains([]int{api.ParentAxis, api.AncestorAxis, api.AncestorOrSelfAxis, api.PrecedingAxis, api.PrecedingSiblingAxis}, s.Axis) {
		slices.Reverse(l)
	}
	for _, e := range s.Preds {
		var kept []int
		for i, b := range l {
			if w.holds(e, b, i+1, len(l)) {
				kept = append(kept, b)
			}
		}
		l = kept
	}
	return l
}

func (w *world) holds(e api.Expr, at, position, last int) bool {
	x := w.nodes[at]
	here := api.Here{Position: position, Last: last, Name: x.Name, Text: x.text, Attrs: x.Attrs}
	is, why := value.Holds(e, here, func(q api.Query) ([]string, api.Errno) {
		var l []string
		for _, b := range w.ask(at, q) {
			l = append(l, w.nodes[b].text)
		}
		return l, api.OK
	})
	if why != api.OK {
		panic(why)
	}
	return is
}

// ask is the nodes to which a query leads from a place.
func (w *world) ask(a int, q api.Query) []int {
	var all []int
	for _, p := range q.Paths {
		places := []int{a}
		if p.Abs {
			places = []int{0}
		}
		for _, s := range p.Steps {
			var next []int
			for _, x := range places {
				next = append(next, w.from(x, s)...)
			}
			slices.Sort(next)
			places = slices.Compact(next)
		}
		all = append(all, places...)
	}
	slices.Sort(all)
	return slices.DeleteFunc(slices.Compact(all), func(x int) bool { return x == 0 })
}

// answers is the handles of the nodes to which a query leads from a node (of 0: from the document).
func (w *world) answers(n api.Handle, q api.Query) []api.Handle {
	var l []api.Handle
	for _, b := range w.ask(w.at[n], q) {
		l = append(l, w.nodes[b].n)
	}
	return l
}
