package eval

import (
	"cmp"
	"slices"
	"strings"
	"unicode/utf8"

	"espalier/api"
	"espalier/join"
)

// document is the place of the document.
const document = 0

// node is a node with its labels, or the document.
type node struct {
	api.Placed
	parent int      // a place; of roots, and of the document itself, the document's
	here   api.Here // what expressions are told of it, wherever it stands in a turn
}

// wholeSpan is the labels of the document. They lie around all that a node can have, and one level above a root's: so the tests of axis tell of the document, too, what lies on its axes.
func wholeSpan() api.Span { return api.Span{Begin: 0, End: api.MaxLabel, Level: -1} }

// put lets a node stand behind all others.
func (x *Index) put(p api.Placed, t api.Tree) {
	x.places[p.Node] = len(x.nodes)
	x.nodes = append(x.nodes, node{Placed: p, here: api.Here{Name: t.Name, Attrs: t.Attrs}})
	if t.Kind == api.Element {
		x.elements = append(x.elements, p)
	}
}

// putTexts tells each node its text. All texts stand in one, of which each node has a piece: copies would be as many as nodes lie in one another.
func (x *Index) putTexts(trees []api.Tree) {
	var whole strings.Builder
	begins := []int{0} // by places: where its texts begin in the whole
	for _, t := range trees {
		begins = append(begins, whole.Len())
		whole.WriteString(t.Text)
	}
	begins = append(begins, whole.Len())
	for i := range x.nodes {
		next, _ := slices.BinarySearchFunc(x.nodes, x.nodes[i].Span.End, func(n node, label uint64) int {
			return cmp.Compare(n.Span.Begin, label)
		})
		x.nodes[i].here.Text = fitting(whole.String()[begins[i]:begins[next]])
	}
}

// fitting is as many whole characters of a text, from its beginning, as one text may have.
func fitting(text string) string {
	if len(text) <= api.MaxText {
		return text
	}
	n := api.MaxText
	for !utf8.RuneStart(text[n]) {
		n--
	}
	return text[:n]
}

// putParents tells each node its parent: that is the innermost element around it.
func (x *Index) putParents() {
	pairs, _ := join.Nearest(x.elements, x.all())
	for _, p := range pairs {
		x.nodes[x.places[p.Inner]].parent = x.places[p.Outer]
	}
}

// all is all nodes with their labels, in document order.
func (x *Index) all() []api.Placed {
	list := make([]api.Placed, 0, len(x.nodes))
	for _, n := range x.nodes[document+1:] {
		list = append(list, n.Placed)
	}
	return list
}
