package tree

import "espalier/api"

// Get is a node without its children.
func (d *Doc) Get(n api.Handle) (api.Tree, api.Errno) {
	s := d.find(n)
	if s == nil {
		return api.Tree{}, api.ErrNode
	}
	return bare(*s), api.OK
}

// Parent is what a node lies in right away (0: it is a root).
func (d *Doc) Parent(n api.Handle) (api.Handle, api.Errno) {
	s := d.find(n)
	if s == nil {
		return 0, api.ErrNode
	}
	return s.Parent, api.OK
}

// Kids is a node's children in their order.
func (d *Doc) Kids(n api.Handle) ([]api.Handle, api.Errno) {
	s := d.find(n)
	if s == nil {
		return nil, api.ErrNode
	}
	return fresh(s.Kids), api.OK
}

// Roots is the nodes without a parent, in their order.
func (d *Doc) Roots() []api.Handle { return fresh(d.roots) }

// Level is how many nodes are around a node.
func (d *Doc) Level(n api.Handle) (int, api.Errno) {
	if d.find(n) == nil {
		return 0, api.ErrNode
	}
	return d.depth(n) - 1, api.OK
}

// All is a node and all within it (of 0: all nodes), in document order.
func (d *Doc) All(n api.Handle) ([]api.Handle, api.Errno) {
	if n == 0 {
		return d.gather(nil, d.roots), api.OK
	}
	s := d.find(n)
	if s == nil {
		return nil, api.ErrNode
	}
	return d.gather([]api.Handle{n}, s.Kids), api.OK
}

// gather puts the nodes of a list, each with all within it, behind those of all.
func (d *Doc) gather(all, list []api.Handle) []api.Handle {
	for _, n := range list {
		all = d.gather(append(all, n), d.find(n).Kids)
	}
	return all
}

// Len is how many nodes there are.
func (d *Doc) Len() int { return d.live }

// Subtree is a node and all within it in plain.
func (d *Doc) Subtree(n api.Handle) (api.Tree, api.Errno) {
	s := d.find(n)
	if s == nil {
		return api.Tree{}, api.ErrNode
	}
	return d.plain(*s), api.OK
}

// Forest is all roots in plain.
func (d *Doc) Forest() []api.Tree { return d.plains(d.roots) }

func (d *Doc) plain(s api.Slot) api.Tree {
	x := bare(s)
	x.Kids = d.plains(s.Kids)
	return x
}

func (d *Doc) plains(list []api.Handle) []api.Tree {
	var l []api.Tree
	for _, n := range list {
		l = append(l, d.plain(*d.find(n)))
	}
	return l
}

// bare is the node of a slot in plain, without its children.
func bare(s api.Slot) api.Tree {
	return api.Tree{Kind: s.Kind, Name: s.Name, Attrs: fresh(s.Attrs), Text: s.Text}
}
