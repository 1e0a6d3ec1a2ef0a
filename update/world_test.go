package update_test

import (
	"espalier/api"
	"espalier/label"
	"espalier/tree"
)

// The chapter, word by word, and as slowly as it likes.

// checkByWords is P17.1.
func checkByWords(l []api.Op) (int, api.Errno) {
	if len(l) > api.MaxOps {
		return 0, api.ErrLong
	}
	for i, op := range l {
		if op.Kind < 1 || op.Kind > 8 {
			return i, api.ErrUpdate
		}
		if op.Kind == api.OpInsert || op.Kind == api.OpReplace {
			if e := tree.Check(op.Tree); e != api.OK {
				return i, e
			}
		}
		for _, ahead := range l[:i] {
			if conflict(ahead, op) {
				return i, api.ErrConflict
			}
		}
	}
	return 0, api.OK
}

func conflict(a, b api.Op) bool {
	if a.Node != b.Node {
		return false
	}
	switch a.Kind {
	case api.OpMove, api.OpName, api.OpText, api.OpReplace:
		return a.Kind == b.Kind
	case api.OpAttr, api.OpDropAttr:
		return (b.Kind == api.OpAttr || b.Kind == api.OpDropAttr) && a.Name == b.Name
	}
	return false
}

// phaseByWords is the phases of P17.2.
func phaseByWords(op api.Op) int {
	for p, kinds := range [][]int{{api.OpName, api.OpText, api.OpAttr, api.OpDropAttr}, {api.OpInsert}, {api.OpMove}, {api.OpReplace}, {api.OpDelete}} {
		for _, k := range kinds {
			if op.Kind == k {
				return p
			}
		}
	}
	return -1
}

// planByWords is P17.2.
func planByWords(l []api.Op) []int {
	var order []int
	for p := range 5 {
		for i, op := range l {
			if phaseByWords(op) == p {
				order = append(order, i)
			}
		}
	}
	return order
}

// world is a document, on which edits are made one by one, and what they took away.
type world struct {
	*label.Doc
	went map[api.Handle]bool
}

func (w world) live() []api.Handle {
	l, _ := w.Tree().All(0)
	return l
}

// one is P17.3: what is put in, and what it is refused for.
func (w world) one(op api.Op) (api.Handle, api.Errno) {
	if w.went[op.Node] && (op.Kind == api.OpReplace || op.Kind == api.OpDelete) {
		return 0, api.OK
	}
	ahead := w.live()
	n, e := w.make(op)
	for _, h := range ahead {
		if _, gone := w.Span(h); gone != api.OK {
			w.went[h] = true
		}
	}
	return n, e
}

func (w world) make(op api.Op) (api.Handle, api.Errno) {
	switch op.Kind {
	case api.OpInsert:
		return w.Insert(op.Where, op.At, op.Tree)
	case api.OpMove:
		return 0, w.Move(op.Node, op.Where, op.At)
	case api.OpDelete:
		return 0, w.Delete(op.Node)
	case api.OpName:
		return 0, w.SetName(op.Node, op.Name)
	case api.OpText:
		return 0, w.SetText(op.Node, op.Value)
	case api.OpAttr:
		return 0, w.SetAttr(op.Node, op.Name, op.Value)
	case api.OpDropAttr:
		return 0, w.DropAttr(op.Node, op.Name)
	}
	n, e := w.Insert(api.Before, op.Node, op.Tree)
	if e != api.OK {
		return 0, e
	}
	return n, w.Delete(op.Node)
}

// applyByWords is P17.4 and P17.6, done to d, which is of no use behind an error.
func applyByWords(d *label.Doc, l []api.Op) ([]api.Handle, int, api.Errno) {
	if at, e := checkByWords(l); e != api.OK {
		return nil, at, e
	}
	w := world{d, map[api.Handle]bool{}}
	put := map[int]api.Handle{}
	for _, i := range planByWords(l) {
		n, e := w.one(l[i])
		if e != api.OK {
			return nil, i, e
		}
		put[i] = n
	}
	var out []api.Handle
	for i := range l {
		if put[i] != 0 {
			out = append(out, put[i])
		}
	}
	return out, 0, api.OK
}
