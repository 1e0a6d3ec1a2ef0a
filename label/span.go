package label

import (
	"cmp"
	"slices"

	"espalier/api"
)

// Span is a node's labels.
func (d *Doc) Span(n api.Handle) (api.Span, api.Errno) {
	level, e := d.nodes.Level(n)
	if e != api.OK {
		return api.Span{}, e
	}
	begin, _ := d.order.Label(d.ends[n].begin)
	end, _ := d.order.Label(d.ends[n].end)
	return api.Span{Begin: begin, End: end, Level: level}, api.OK
}

// Spans is the labels of all nodes, in document order.
func (d *Doc) Spans() []api.Placed {
	all, _ := d.nodes.All(0)
	l := make([]api.Placed, 0, len(all))
	for _, n := range all {
		span, _ := d.Span(n)
		l = append(l, api.Placed{Node: n, Span: span})
	}
	return l
}

// Find is the node that begins at a label. It goes down from the roots, as labels rise among siblings: a list by labels would have to be made anew with each relabel.
func (d *Doc) Find(begin uint64) (api.Handle, api.Errno) {
	siblings := d.nodes.Roots()
	for {
		i, ok := slices.BinarySearchFunc(siblings, begin, d.beside)
		if ok {
			return siblings[i], api.OK
		}
		if i == 0 {
			return 0, api.ErrNode
		}
		siblings, _ = d.nodes.Kids(siblings[i-1])
	}
}

// beside tells whether a node begins ahead of a label (below 0), at it (0), or behind it.
func (d *Doc) beside(n api.Handle, label uint64) int {
	begin, _ := d.order.Label(d.ends[n].begin)
	return cmp.Compare(begin, label)
}

// Tags is how many tags were ever given; Writes how often a tag got a number.
func (d *Doc) Tags() uint64   { return d.order.Given() }
func (d *Doc) Writes() uint64 { return d.order.Writes() }
