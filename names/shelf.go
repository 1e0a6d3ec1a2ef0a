package names

import (
	"espalier/api"
	"espalier/ordered"
)

// shelf is what all nodes of a list have in common.
type shelf struct {
	kind int
	name string // of named and having
}

// The kinds of shelves.
const (
	texts    = iota // texts
	elements        // elements, of any name
	named           // elements of a name
	having          // elements with an attribute of a name
)

// shelves is where a node stands.
func shelves(t api.Tree) []shelf {
	if t.Kind == api.Text {
		return []shelf{{kind: texts}}
	}
	l := []shelf{{kind: elements}, {named, t.Name}}
	for _, a := range t.Attrs {
		l = append(l, shelf{having, a.Name})
	}
	return l
}

// ahead is document order by the labels as they are at the time: an edit may make them others, but not their order.
func (x *Index) ahead(a, b api.Handle) bool {
	return x.placed(a).Span.Begin < x.placed(b).Span.Begin
}

// list is what stands on a shelf.
func (x *Index) list(s shelf) *ordered.List[api.Handle] {
	if l := x.lists[s]; l != nil {
		return l
	}
	l, _ := ordered.New(x.ahead)
	return l
}

// put lets a node stand on a shelf. If it stands there, it stays.
func (x *Index) put(s shelf, n api.Handle) {
	l := x.list(s)
	l.Put(n)
	x.lists[s] = l
}

// drop takes a node off a shelf. A shelf on which nothing stands is none, so that Names need not tell it apart.
func (x *Index) drop(s shelf, n api.Handle) {
	l := x.list(s)
	l.Drop(n)
	if l.Len() == 0 {
		delete(x.lists, s)
	}
}

// putAll lets a node and all within it (of 0: all nodes) stand on their shelves.
func (x *Index) putAll(n api.Handle) { x.each(n, x.put) }

// dropAll takes a node and all within it off their shelves.
func (x *Index) dropAll(n api.Handle) { x.each(n, x.drop) }

// each tells a node and all within it (of 0: all nodes), with each shelf that is theirs.
func (x *Index) each(n api.Handle, tell func(s shelf, n api.Handle)) {
	all, _ := x.nodes.All(n)
	for _, m := range all {
		t, _ := x.nodes.Get(m)
		for _, s := range shelves(t) {
			tell(s, m)
		}
	}
}
