package names_test

import (
	"math/rand/v2"

	"espalier/api"
	"espalier/tree"
)

// edited is what can be edited: an index, and a document with labels.
type edited interface {
	Insert(where int, at api.Handle, t api.Tree) (api.Handle, api.Errno)
	Move(n api.Handle, where int, at api.Handle) api.Errno
	Delete(n api.Handle) api.Errno
	SetName(n api.Handle, name string) api.Errno
	SetText(n api.Handle, text string) api.Errno
	SetAttr(n api.Handle, name, value string) api.Errno
	DropAttr(n api.Handle, name string) api.Errno
}

func edit(d edited, op api.Op) (api.Handle, api.Errno) {
	switch op.Kind {
	case api.OpInsert:
		return d.Insert(op.Where, op.At, op.Tree)
	case api.OpMove:
		return 0, d.Move(op.Node, op.Where, op.At)
	case api.OpDelete:
		return 0, d.Delete(op.Node)
	case api.OpName:
		return 0, d.SetName(op.Node, op.Name)
	case api.OpText:
		return 0, d.SetText(op.Node, op.Value)
	case api.OpAttr:
		return 0, d.SetAttr(op.Node, op.Name, op.Value)
	default:
		return 0, d.DropAttr(op.Node, op.Name)
	}
}

// script makes edits, most of which can be, of few words, so that many have the same.
type script struct{ *rand.Rand }

func newScript(r *rand.Rand) script { return script{r} }

func (s script) of(l ...string) string { return l[s.IntN(len(l))] }

func (s script) name() string { return s.of("a", "b", "c", "k", "A", "_", "a1", "z") }

func (s script) value() string { return s.of("", "1", "2", "a", "k") }

func (s script) tree(deep int) api.Tree {
	if s.IntN(4) == 0 {
		return text(s.value())
	}
	x := el(s.name())
	for _, k := range []string{"A", "a", "k"} {
		if s.IntN(3) == 0 {
			x = with(x, k, s.value())
		}
	}
	for range s.IntN(3) {
		if deep > 0 {
			x.Kids = append(x.Kids, s.tree(deep-1))
		}
	}
	return x
}

// node is a node, most times.
func (s script) node(d *tree.Doc) api.Handle {
	all, _ := d.All(0)
	if len(all) == 0 || s.IntN(12) == 0 {
		return api.Handle(s.IntN(3))<<32 + api.Handle(s.IntN(5))
	}
	return all[s.IntN(len(all))]
}

func (s script) op(d *tree.Doc) api.Op {
	kinds := []int{api.OpInsert, api.OpInsert, api.OpMove, api.OpMove, api.OpDelete, api.OpName, api.OpText, api.OpAttr, api.OpAttr, api.OpDropAttr}
	op := api.Op{Kind: kinds[s.IntN(len(kinds))], Node: s.node(d), At: s.node(d), Where: 1 + s.IntN(4), Name: s.name(), Value: s.value()}
	switch {
	case op.Kind == api.OpInsert:
		op.Tree = s.tree(3)
	case op.Kind == api.OpDelete && d.Len() < 12:
		op.Kind = api.OpDropAttr // so that the document grows
	case s.IntN(30) == 0:
		op.Name, op.Value, op.Where = "-", "\x00", 0
	}
	if s.IntN(8) == 0 || d.Len() == 0 {
		op.At, op.Where = 0, 1+s.IntN(2)
	}
	return op
}
