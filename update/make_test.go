package update_test

import (
	"math/rand/v2"

	"espalier/api"
	"espalier/label"
)

// maker makes documents and lists of edits, the same ones in each run.
type maker struct{ *rand.Rand }

func newMaker(seed uint64) maker { return maker{rand.New(rand.NewPCG(seed, 17))} }

func pick[T any](m maker, l []T) T { return l[m.IntN(len(l))] }

// tree is a tree of few names, of at most so many nodes on each level.
func (m maker) tree(most, deep int) api.Tree {
	if m.IntN(3) == 0 {
		return text(pick(m, []string{"", "x", "y", "é"}))
	}
	x := el(pick(m, []string{"a", "b", "c"}))
	if m.IntN(2) == 0 {
		x.Attrs = append(x.Attrs, api.Attr{Name: "k", Value: pick(m, []string{"1", "2", ""})})
	}
	if deep > 1 {
		for range m.IntN(most + 1) {
			x.Kids = append(x.Kids, m.tree(most, deep-1))
		}
	}
	return x
}

// doc is a document behind edits, so that its indexes and its labels are not in order.
func (m maker) doc() *label.Doc {
	d := &label.Doc{}
	for range 2 + m.IntN(3) {
		d.Insert(api.Last, 0, m.tree(3, 4))
	}
	for range m.IntN(12) {
		n, at := m.node(d), m.node(d)
		switch m.IntN(5) {
		case 0:
			d.Delete(n)
		case 1:
			d.Insert(1+m.IntN(4), at, m.tree(2, 2))
		default:
			d.Move(n, 1+m.IntN(4), at)
		}
	}
	return d
}

// node is a node of a document; now and then one that is none yet, or none any more, or 0.
func (m maker) node(d *label.Doc) api.Handle {
	all, _ := d.Tree().All(0)
	if m.IntN(12) == 0 || len(all) == 0 {
		return hd(uint64(m.IntN(len(all)+4)), uint64(1+m.IntN(3)))
	}
	return pick(m, all)
}

// op is any edit of a document.
func (m maker) op(d *label.Doc) api.Op {
	op := api.Op{Kind: 1 + m.IntN(8), Node: m.node(d), At: m.node(d), Where: 1 + m.IntN(4), Tree: m.tree(2, 2), Value: pick(m, []string{"", "1", "2"})}
	op.Name = pick(m, []string{"a", "k", "k", "m"})
	switch m.IntN(40) {
	case 0:
		op.Kind = 9 * m.IntN(2)
	case 1:
		op.Name = "1"
	case 2:
		op.Value = "\x00"
	case 3:
		op.Tree = el("")
	case 4:
		op.At, op.Where = 0, m.IntN(6)
	}
	return op
}

// list is so many edits, some of which mean the same nodes.
func (m maker) list(d *label.Doc, n int) []api.Op {
	var l []api.Op
	for range n {
		op := m.op(d)
		if len(l) > 0 && m.IntN(4) == 0 {
			op.Node = pick(m, l).Node
		}
		l = append(l, op)
	}
	return l
}

// good is a list of about so many edits, none of which is refused: what would be is left out. d is as the document of that seed.
func (m maker) good(seed uint64, n int) []api.Op {
	var l []api.Op
	for range 3 * n {
		d := newMaker(seed).doc()
		l = append(l, m.list(d, 1)...)
		if len(l) > 1 && m.IntN(4) == 0 {
			l[len(l)-1].Node = pick(m, l[:len(l)-1]).Node
		}
		if _, _, e := applyByWords(d, l); e != api.OK || len(l) > n {
			l = l[:len(l)-1]
		}
	}
	return l
}
