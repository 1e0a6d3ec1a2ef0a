package oplog_test

import (
	"math/rand/v2"

	"espalier/api"
	"espalier/label"
)

// maker makes trees and edits, the same ones in each run.
type maker struct{ *rand.Rand }

func newMaker(seed uint64) maker { return maker{rand.New(rand.NewPCG(seed, 19))} }

func pick[T any](m maker, l []T) T { return l[m.IntN(len(l))] }

var texts = []string{"", "x", "yz", "é", "a b\n", "\U0010ffff", "\x09\x7f", "&<>\"", "k"}

// spoilt is texts that can't be.
var spoilt = []string{"\x00", "\xff", "\xc0\x80", "x\xed\xa0\x80", "\xef\xbf\xbe", "é"[:1], long(api.MaxText + 1)}

// tree is any tree of at most so many nodes, with something in what its kinds do not use.
func (m maker) tree(nodes int) api.Tree {
	if nodes == 1 && m.IntN(2) == 0 || m.IntN(6) == 0 {
		x := text(pick(m, texts))
		if m.IntN(3) == 0 {
			x.Name, x.Attrs, x.Kids = "\x00", []api.Attr{{Name: "?"}}, []api.Tree{{Kind: 7}}
		}
		return x
	}
	x := el(pick(m, []string{"a", "b", "_c-1.", long(api.MaxName)}))
	for _, name := range []string{"j", "k", "l"} {
		if m.IntN(3) == 0 {
			x = with(x, name, pick(m, texts))
		}
	}
	for nodes > 1 && m.IntN(5) > 0 {
		n := 1 + m.IntN(nodes-1)
		x.Kids = append(x.Kids, m.tree(n))
		nodes -= n
	}
	if m.IntN(3) == 0 {
		x.Text = pick(m, spoilt)
	}
	return x
}

// handle is a handle, or any number.
func (m maker) handle() api.Handle {
	if m.IntN(2) == 0 {
		return api.Handle(m.Uint64())
	}
	return hd(uint64(m.IntN(5)), uint64(m.IntN(3)))
}

// op is any edit that can be logged; in what plays no part there may be anything.
func (m maker) op() api.Op {
	op := api.Op{Kind: 1 + m.IntN(7), Node: m.handle(), At: m.handle(), Where: m.IntN(256), Name: pick(m, texts), Value: pick(m, texts), Tree: m.tree(1 + m.IntN(12))}
	if m.IntN(2) == 0 {
		return lean(op)
	}
	switch op.Kind {
	case api.OpInsert, api.OpMove, api.OpDelete:
		op.Name, op.Value = pick(m, spoilt), pick(m, spoilt)
	case api.OpText:
		op.Name = pick(m, spoilt)
	case api.OpName, api.OpDropAttr:
		op.Value = pick(m, spoilt)
	}
	if op.Kind > api.OpMove {
		op.Where = pick(m, []int{-1, 256, -1 << 63, 1<<63 - 1})
	}
	if op.Kind != api.OpInsert {
		op.Tree.Kind = m.IntN(4)
		op.Tree.Name = "\x00"
	}
	return op
}

func (m maker) ops(n int) []api.Op {
	l := make([]api.Op, n)
	for i := range l {
		l[i] = m.op()
	}
	return l
}

// live is a node of a document, now and then 0, or none.
func (m maker) live(d *label.Doc) api.Handle {
	all, _ := d.Tree().All(0)
	if len(all) == 0 || m.IntN(8) == 0 {
		return hd(uint64(m.IntN(3)), 0)
	}
	return pick(m, all)
}

// edit is any edit of a document, which may be refused.
func (m maker) edit(d *label.Doc) api.Op {
	n, names := m.live(d), []string{"j", "k", "l", "", "1"}
	switch m.IntN(9) {
	case 0, 1, 2:
		return insert(m.IntN(6), m.live(d), m.tree(1+m.IntN(5)))
	case 3:
		return move(n, m.IntN(6), m.live(d))
	case 4:
		return remove(n)
	case 5:
		return rename(n, pick(m, names))
	case 6:
		return retext(n, pick(m, texts))
	case 7:
		return attr(n, pick(m, names), pick(m, texts))
	}
	return drop(n, pick(m, names))
}
