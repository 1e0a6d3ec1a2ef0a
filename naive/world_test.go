package naive_test

import (
	"slices"

	"espalier/api"
	"espalier/tree"
	"espalier/value"
)

// world is what a query means by the words (13.2, 16.1), place by place, on a list of nodes in document order; number 0 is the document itself. It keeps nothing, and goes along no axis: of each two places it asks how they lie.
type world struct {
	d     *tree.Doc
	nodes []thing
	at    map[api.Handle]int
}

type thing struct {
	api.Tree
	n           api.Handle
	text        string
	parent, end int // end: the number behind the last one within
}

func newWorld(d *tree.Doc) *world {
	w := &world{d: d, at: map[api.Handle]int{}}
	w.grow(0, -1, d.Roots())
	return w
}

func (w *world) grow(n api.Handle, parent int, kids []api.Handle) {
	at := len(w.nodes)
	x, _ := w.d.Get(n)
	s, _ := value.Of(w.d, n)
	w.at[n] = at
	w.nodes = append(w.nodes, thing{Tree: x, n: n, text: s, parent: parent})
	for _, k := range kids {
		within, _ := w.d.Kids(k)
		w.grow(k, at, within)
	}
	w.nodes[at].end = len(w.nodes)
}

// lies tells whether a place b is on an axis of a place a.
func (w *world) lies(axis, b, a int) bool {
	within := func(x, y int) bool { return x > y && x < w.nodes[y].end }
	siblings := a > 0 && b > 0 && w.nodes[a].parent == w.nodes[b].parent
	switch axis {
	case 1:
		return w.nodes[b].parent == a
	case 2:
		return within(b, a)
	case 3:
		return b == a || within(b, a)
	case 4:
		return w.nodes[a].parent == b
	case 5:
		return within(a, b)
	case 6:
		return a == b || within(a, b)
	case 7:
		return a > 0 && b >= w.nodes[a].end
	case 8:
		return b > 0 && b < a && !within(a, b)
	case 9:
		return siblings && b > a
	case 10:
		return siblings && b < a
	}
	return a == b
}

// passes tells whether a step's test lets a place by.
func (w *world) passes(s api.Step, b int) bool {
	switch x := w.nodes[b]; s.Test {
	case 1:
		return x.Kind == api.Element && x.Name == s.Name
	case 2:
		return x.Kind == api.Element
	case 3:
		return x.Kind == api.Text
	}
	return b > 0 || slices.Contains([]int{11, 3, 4, 5, 6}, s.Axis)
}

// from is what a step leads to from a place, in its turn.
func (w *world) from(a int, s api.Step) []int {
	var l []int
	for b := range w.nodes {
		if w.lies(s.Axis, b, a) && w.passes(s, b) {
			l = append(l, b)
		}
	}
	if slices.Contains([]int{4, 5, 6, 8, 10}, s.Axis) {
		slices.Reverse(l)
	}
	for _, e := range s.Preds {
		var kept []int
		for i, b := range l {
			if is, _ := value.Holds(e, w.here(b, i+1, len(l)), w.asker(b)); is {
				kept = append(kept, b)
			}
		}
		l = kept
	}
	return l
}

func (w *world) here(at, position, last int) api.Here {
	x := w.nodes[at]
	return api.Here{Position: position, Last: last, Name: x.Name, Text: x.text, Attrs: x.Attrs}
}

func (w *world) asker(at int) func(q api.Query) ([]string, api.Errno) {
	return func(q api.Query) ([]string, api.Errno) {
		var l []string
		for _, b := range w.ask(at, q) {
			l = append(l, w.nodes[b].text)
		}
		return l, api.OK
	}
}

// ask is the nodes to which a query leads from a place.
func (w *world) ask(a int, q api.Query) []int {
	var all []int
	for _, p := range q.Paths {
		places := []int{a}
		if p.Abs {
			places = []int{0}
		}
		for _, s := range p.Steps {
			var next []int
			for _, x := range places {
				next = append(next, w.from(x, s)...)
			}
			slices.Sort(next)
			places = slices.Compact(next)
		}
		all = append(all, places...)
	}
	slices.Sort(all)
	return slices.DeleteFunc(slices.Compact(all), func(x int) bool { return x == 0 })
}

// answers is the handles of the nodes to which a query leads from a node (of 0: from the document).
func (w *world) answers(n api.Handle, q api.Query) []api.Handle {
	var l []api.Handle
	for _, b := range w.ask(w.at[n], q) {
		l = append(l, w.nodes[b].n)
	}
	return l
}

// values is what an expression answers at a node (of 0: at the document) that is the only one of its turn, and whether it holds.
func (w *world) values(n api.Handle, e api.Expr) (api.Value, bool) {
	at := w.at[n]
	v, _ := value.Eval(e, w.here(at, 1, 1), w.asker(at))
	is, _ := value.Holds(e, w.here(at, 1, 1), w.asker(at))
	return v, is
}

// matches is whether a query leads to a node from any place that is around it, or is it.
func (w *world) matches(n api.Handle, q api.Query) bool {
	for at := w.at[n]; at >= 0; at = w.nodes[at].parent {
		if slices.Contains(w.ask(at, q), w.at[n]) {
			return true
		}
	}
	return false
}
