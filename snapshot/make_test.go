package snapshot_test

import (
	"math/rand/v2"

	"espalier/api"
	"espalier/tree"
)

// maker makes documents, edits and bytes, the same ones in each run.
type maker struct{ *rand.Rand }

func newMaker(seed uint64) maker { return maker{rand.New(rand.NewPCG(seed, 20))} }

func pick[T any](m maker, l []T) T { return l[m.IntN(len(l))] }

var texts = []string{"", "x", "yz", "é", "a b\n", "\U0010ffff", "\x09\x7f", "&<>\"", long(127), long(128), long(300)}

// tree is any tree of at most so many nodes.
func (m maker) tree(nodes int) api.Tree {
	if nodes == 1 && m.IntN(2) == 0 || m.IntN(6) == 0 {
		return text(pick(m, texts))
	}
	x := el(pick(m, []string{"a", "b", "_c-1.", long(api.MaxName)}))
	for _, name := range []string{"j", "k", "l"} {
		if m.IntN(3) == 0 {
			x = with(x, name, pick(m, texts))
		}
	}
	for nodes > 1 && m.IntN(5) > 0 {
		n := 1 + m.IntN(nodes-1)
		x.Kids = append(x.Kids, m.tree(n))
		nodes -= n
	}
	return x
}

// live is a node of a document, now and then 0, or none.
func (m maker) live(d *tree.Doc) api.Handle {
	all, _ := d.All(0)
	if len(all) == 0 || m.IntN(8) == 0 {
		return hd(uint64(m.IntN(3)), 0)
	}
	return pick(m, all)
}

// edit is any edit of a document, which may be refused.
func (m maker) edit(d *tree.Doc) api.Op {
	names := []string{"j", "k", "l", "z"}
	op := api.Op{Kind: 1 + m.IntN(7), Node: m.live(d), At: m.live(d), Where: 1 + m.IntN(4), Name: pick(m, names), Value: pick(m, texts)}
	if op.Kind == api.OpInsert || m.IntN(3) == 0 {
		op.Kind, op.Tree = api.OpInsert, m.tree(1+m.IntN(6))
	}
	return op
}

// do does an edit by the tree's own calls.
func do(d *tree.Doc, op api.Op) (api.Handle, api.Errno) {
	switch op.Kind {
	case api.OpInsert:
		return d.Insert(op.Where, op.At, op.Tree)
	case api.OpMove:
		return 0, d.Move(op.Node, op.Where, op.At)
	case api.OpDelete:
		return 0, d.Delete(op.Node)
	case api.OpName:
		return 0, d.SetName(op.Node, op.Name)
	case api.OpText:
		return 0, d.SetText(op.Node, op.Value)
	case api.OpAttr:
		return 0, d.SetAttr(op.Node, op.Name, op.Value)
	}
	return 0, d.DropAttr(op.Node, op.Name)
}

// grow does so many edits, or what of them is not refused.
func (m maker) grow(d *tree.Doc, n int) {
	for range n {
		do(d, m.edit(d))
	}
}

// doc is a document that so many edits made, with generations of any size.
func (m maker) doc(edits int) *tree.Doc {
	d := &tree.Doc{}
	m.grow(d, edits/2)
	if m.IntN(2) == 0 {
		d = aged(m, d)
	}
	m.grow(d, edits-edits/2)
	return d
}

var gens = []uint32{1, 2, 127, 128, 255, 1 << 14, 1<<21 - 1, 1 << 28, 1<<31 - 1, 1<<32 - 2, 1<<32 - 1}

// aged is the same forest in slots of other generations.
func aged(m maker, d *tree.Doc) *tree.Doc {
	x := d.Image()
	for i := range x.Slots {
		x.Slots[i].Gen = pick(m, gens)
	}
	again := func(h *api.Handle) {
		if *h > 0 {
			*h = hd(index(*h), uint64(x.Slots[index(*h)-1].Gen))
		}
	}
	for i := range x.Slots {
		again(&x.Slots[i].Parent)
		for k := range x.Slots[i].Kids {
			again(&x.Slots[i].Kids[k])
		}
	}
	for i := range x.Roots {
		again(&x.Roots[i])
	}
	d, e := tree.Load(x)
	if e != api.OK {
		panic("a document of other generations can't be")
	}
	return d
}
