package differ

import (
	"slices"

	"espalier/api"
	"espalier/tree"
)

// maker makes a document step by step another one, its aim, and notes the edits.
type maker struct {
	now   *tree.Doc
	aim   *tree.Doc
	here  pairs                   // grows by what is put in
	stays map[api.Handle]struct{} // the nodes of now that here has
	edits []api.Op
}

// edits is what makes a document b, where each node of a that is paired becomes the one of b. From the roots downwards each node of b comes to stand under a parent that stands already: so none is ever moved into itself.
func edits(a, b *tree.Doc, p pairs) ([]api.Op, api.Errno) {
	m := maker{now: a.Clone(), aim: b, here: p, stays: map[api.Handle]struct{}{}}
	for _, n := range p {
		m.stays[n] = struct{}{}
	}
	if e := m.settle(0); e != api.OK {
		return nil, e
	}
	m.clear()
	return m.edits, api.OK
}

// edit does an edit and notes it, if it is not refused.
func (m *maker) edit(op api.Op) (api.Handle, api.Errno) {
	n, e := do(m.now, op)
	if e == api.OK {
		m.edits = append(m.edits, op)
	}
	return n, e
}

// settle lets all within a node of the aim (of 0: all nodes), which stands where it has to, stand where they have to. What else lies between them goes later.
func (m *maker) settle(of api.Handle) api.Errno {
	list := kidsOf(m.aim, of)
	place := api.Op{Where: api.First, At: m.here[of]}
	stand := m.standing(place.At, list)
	for i, k := range list {
		n, paired := m.here[k]
		if !paired {
			var e api.Errno
			if n, e = m.put(k, place); e != api.OK {
				return e
			}
		} else if !stand[i] {
			m.move(n, place)
		}
		place = api.Op{Where: api.After, At: n}
	}
	for _, k := range list {
		m.change(k)
		if e := m.settle(k); e != api.OK {
			return e
		}
	}
	return api.OK
}

// standing tells which of the aim's siblings are not to be moved: under the parent these stand in their order already.
func (m *maker) standing(parent api.Handle, list []api.Handle) []bool {
	wanted := make([]api.Handle, len(list))
	for i, k := range list {
		wanted[i] = m.here[k]
	}
	stand := make([]bool, len(list))
	for _, p := range longest(kidsOf(m.now, parent), wanted) {
		stand[p[1]] = true
	}
	return stand
}

// move moves a node to a place. Where it would lie too deep with what lies in it, that makes way: none of it stands where it has to.
func (m *maker) move(n api.Handle, place api.Op) {
	op := api.Op{Kind: api.OpMove, Node: n, Where: place.Where, At: place.At}
	if _, e := m.edit(op); e == api.OK {
		return
	}
	for _, k := range kidsOf(m.now, n) {
		m.park(k)
	}
	m.edit(op)
}

// park moves a node to where it lies in nothing.
func (m *maker) park(n api.Handle) {
	m.edit(api.Op{Kind: api.OpMove, Node: n, Where: api.Last})
}

// put puts a node of the aim in, with all that hangs on it and is not paired. What is to go goes ahead of that only where there is no room else: nodes that lie in it would have to be moved twice.
func (m *maker) put(k api.Handle, place api.Op) (api.Handle, api.Errno) {
	x, missing := m.missing(k, nil)
	op := api.Op{Kind: api.OpInsert, Where: place.Where, At: place.At, Tree: x}
	n, e := m.edit(op)
	if e != api.OK {
		m.clear()
		n, e = m.edit(op)
	}
	if e != api.OK {
		return 0, e
	}
	all, _ := m.now.All(n)
	for i, h := range all {
		m.here[missing[i]] = h
		m.stays[h] = struct{}{}
	}
	return n, api.OK
}

// missing is a node of the aim in plain with all that hangs on it and is not paired; their handles stand behind those of all.
func (m *maker) missing(k api.Handle, all []api.Handle) (api.Tree, []api.Handle) {
	x, _ := m.aim.Get(k)
	all = append(all, k)
	for _, h := range kidsOf(m.aim, k) {
		if _, paired := m.here[h]; !paired {
			var y api.Tree
			y, all = m.missing(h, all)
			x.Kids = append(x.Kids, y)
		}
	}
	return x, all
}

// clear takes away what is to go; nodes that are to stay make way ahead of it.
func (m *maker) clear() {
	for _, n := range allOf(m.now) {
		if m.isToStay(n) && !m.liesInStaying(n) {
			m.park(n)
		}
	}
	for _, n := range allOf(m.now) {
		if !m.isToStay(n) && m.liesInStaying(n) {
			m.edit(api.Op{Kind: api.OpDelete, Node: n})
		}
	}
}

func (m *maker) isToStay(n api.Handle) bool {
	_, stays := m.stays[n]
	return stays
}

// liesInStaying tells whether a node is there, as a root or right in a node that is to stay.
func (m *maker) liesInStaying(n api.Handle) bool {
	parent, e := m.now.Parent(n)
	return e == api.OK && (parent == 0 || m.isToStay(parent))
}

// change gives a node what the one of the aim has. Attributes go first: there is room for only so many.
func (m *maker) change(k api.Handle) {
	n := m.here[k]
	has, _ := m.now.Get(n)
	gets, _ := m.aim.Get(k)
	if has.Name != gets.Name {
		m.edit(api.Op{Kind: api.OpName, Node: n, Name: gets.Name})
	}
	if has.Text != gets.Text {
		m.edit(api.Op{Kind: api.OpText, Node: n, Value: gets.Text})
	}
	for _, x := range has.Attrs {
		if !slices.ContainsFunc(gets.Attrs, func(y api.Attr) bool { return y.Name == x.Name }) {
			m.edit(api.Op{Kind: api.OpDropAttr, Node: n, Name: x.Name})
		}
	}
	for _, x := range gets.Attrs {
		if !slices.Contains(has.Attrs, x) {
			m.edit(api.Op{Kind: api.OpAttr, Node: n, Name: x.Name, Value: x.Value})
		}
	}
}
