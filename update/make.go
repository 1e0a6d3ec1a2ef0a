package update

import (
	"espalier/api"
	"espalier/tree"
)

// edited is what edits are made on: first a draft, then the document that is meant.
type edited interface {
	Insert(where int, at api.Handle, x api.Tree) (api.Handle, api.Errno)
	Move(n api.Handle, where int, at api.Handle) api.Errno
	Delete(n api.Handle) api.Errno
	SetName(n api.Handle, name string) api.Errno
	SetText(n api.Handle, text string) api.Errno
	SetAttr(n api.Handle, name, value string) api.Errno
	DropAttr(n api.Handle, name string) api.Errno
}

// carryOut makes one edit: the handle of what it put in, if it does put in.
func carryOut(d edited, op api.Op) (api.Handle, api.Errno) {
	switch op.Kind {
	case api.OpName:
		return 0, d.SetName(op.Node, op.Name)
	case api.OpText:
		return 0, d.SetText(op.Node, op.Value)
	case api.OpAttr:
		return 0, d.SetAttr(op.Node, op.Name, op.Value)
	case api.OpDropAttr:
		return 0, d.DropAttr(op.Node, op.Name)
	case api.OpInsert:
		return d.Insert(op.Where, op.At, op.Tree)
	case api.OpMove:
		return 0, d.Move(op.Node, op.Where, op.At)
	case api.OpDelete:
		return 0, d.Delete(op.Node)
	}
	return replace(d, op.Node, op.Tree)
}

// replace puts a tree in where a node stands, and takes that away.
func replace(d edited, n api.Handle, x api.Tree) (api.Handle, api.Errno) {
	put, e := d.Insert(api.Before, n, x)
	if e != api.OK {
		return 0, e
	}
	return put, d.Delete(n)
}

// draft is a copy on which edits are tried.
type draft struct {
	*tree.Doc
	gone map[api.Handle]int // how many edits took a node away, of each node that the list names: of others nobody asks, and they may be many
}

// draftFor is the draft for a list.
func draftFor(copied func() *tree.Doc, l []api.Op) draft {
	d := draft{copied(), map[api.Handle]int{}}
	for _, op := range l {
		d.gone[op.Node] = 0
	}
	return d
}

// Delete takes a node away with all within it.
func (d draft) Delete(n api.Handle) api.Errno {
	all, _ := d.All(n)
	if e := d.Doc.Delete(n); e != api.OK {
		return e
	}
	for _, h := range all {
		if _, named := d.gone[h]; named {
			d.gone[h]++
		}
	}
	return api.OK
}

// tried is what came of a list on a draft: the numbers of the edits that do something, as they are made, and what is put in, by the numbers of the edits.
type tried struct {
	made []int
	put  []api.Handle
}

// try makes the edits on a copy, which is asked for only if they can be: what came of it; else the number and the error of the one that is wrong, or refused.
func try(copied func() *tree.Doc, l []api.Op) (tried, int, api.Errno) {
	if at, e := Check(l); e != api.OK {
		return tried{}, at, e
	}
	d := draftFor(copied, l)
	var x tried
	put := make([]api.Handle, len(l))
	for _, i := range ordered(l) {
		if d.gone[l[i].Node] > 0 {
			continue
		}
		n, e := carryOut(d, l[i])
		if e != api.OK {
			return tried{}, i, e
		}
		x.made = append(x.made, i)
		put[i] = n
	}
	for _, n := range put {
		if n != 0 {
			x.put = append(x.put, n)
		}
	}
	return x, 0, api.OK
}
