package names

import (
	"slices"
	"strings"

	"espalier/api"
	"espalier/chars"
	"espalier/ordered"
)

// Named is the elements of a name, in document order.
func (x *Index) Named(name string) []api.Placed { return x.tell(shelf{named, name}) }

// Texts is all texts, in document order.
func (x *Index) Texts() []api.Placed { return x.tell(shelf{kind: texts}) }

// Having is the elements with an attribute of a name, in document order.
func (x *Index) Having(attr string) []api.Placed { return x.tell(shelf{having, attr}) }

// Valued is those of Having in which the attribute has a value. Values have no lists of their own: there may be a hundred thousand, with a node each.
func (x *Index) Valued(attr, value string) []api.Placed {
	return slices.DeleteFunc(x.Having(attr), func(p api.Placed) bool {
		t, _ := x.nodes.Get(p.Node)
		return !slices.Contains(t.Attrs, api.Attr{Name: attr, Value: value})
	})
}

// Names is the names that elements have, rising, and how many have each.
func (x *Index) Names() []api.Named {
	var l []api.Named
	for s, in := range x.lists {
		if s.kind == named {
			l = append(l, api.Named{Name: s.name, N: in.Len()})
		}
	}
	slices.SortFunc(l, func(a, b api.Named) int { return strings.Compare(a.Name, b.Name) })
	return l
}

// Within is the elements of a name (empty: of any) within a node, in document order.
func (x *Index) Within(name string, n api.Handle) ([]api.Placed, api.Errno) {
	in, e := x.asked(name, n)
	if e != api.OK {
		return nil, e
	}
	end := x.placed(n).Span.End
	var l []api.Placed
	for m := range in.From(n) {
		p := x.placed(m)
		if p.Span.Begin > end {
			break
		}
		if m != n {
			l = append(l, p)
		}
	}
	return l, api.OK
}

// Next is the first element of a name (empty: of any) that begins behind where a node begins.
func (x *Index) Next(name string, n api.Handle) (api.Handle, bool, api.Errno) {
	in, e := x.asked(name, n)
	if e != api.OK {
		return 0, false, e
	}
	at := in.Rank(n)
	if in.Has(n) {
		at++
	}
	m, ok := in.At(at)
	return m, ok, api.OK
}

// Back is the last element of a name (empty: of any) that begins ahead of where a node begins.
func (x *Index) Back(name string, n api.Handle) (api.Handle, bool, api.Errno) {
	in, e := x.asked(name, n)
	if e != api.OK {
		return 0, false, e
	}
	m, ok := in.At(in.Rank(n) - 1)
	return m, ok, api.OK
}

// Rank is how many elements of a name (empty: of any) begin ahead of a node.
func (x *Index) Rank(name string, n api.Handle) (int, api.Errno) {
	in, e := x.asked(name, n)
	if e != api.OK {
		return 0, e
	}
	return in.Rank(n), api.OK
}

// asked is the elements of a name (empty: of any), if it can be one and n is a node.
func (x *Index) asked(name string, n api.Handle) (*ordered.List[api.Handle], api.Errno) {
	s := shelf{named, name}
	if name == "" {
		s = shelf{kind: elements}
	} else if !chars.Name(name) {
		return nil, api.ErrName
	}
	if _, e := x.doc.Span(n); e != api.OK {
		return nil, e
	}
	return x.list(s), api.OK
}

// tell is the nodes on a shelf, in document order.
func (x *Index) tell(s shelf) []api.Placed {
	in := x.list(s)
	l := make([]api.Placed, 0, in.Len())
	for _, n := range in.All() {
		l = append(l, x.placed(n))
	}
	return l
}

// placed is a node with its labels as they are now.
func (x *Index) placed(n api.Handle) api.Placed {
	span, _ := x.doc.Span(n)
	return api.Placed{Node: n, Span: span}
}
