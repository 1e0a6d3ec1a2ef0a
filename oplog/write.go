package oplog

import (
	"bytes"

	"espalier/api"
)

// How many bytes of a frame stand ahead of the body, and behind it.
const (
	head = 4
	foot = 4
)

// writer writes what frames are made of, one thing behind the other.
type writer struct{ bytes.Buffer }

// edit writes a body, of an edit that can be logged.
func (w *writer) edit(op api.Op) {
	p, _ := partsOf(op.Kind)
	w.number(uint64(op.Kind), 1)
	if p.node {
		w.number(uint64(op.Node), 8)
	}
	if p.where {
		w.number(uint64(op.At), 8)
		w.number(uint64(op.Where), 1)
	}
	if p.name {
		w.text(op.Name)
	}
	if p.value {
		w.text(op.Value)
	}
	if p.tree {
		w.tree(op.Tree)
	}
}

func (w *writer) tree(x api.Tree) {
	w.number(uint64(x.Kind), 1)
	if x.Kind == api.Text {
		w.text(x.Text)
		return
	}
	w.text(x.Name)
	w.number(uint64(len(x.Attrs)), 1)
	for _, a := range x.Attrs {
		w.text(a.Name)
		w.text(a.Value)
	}
	w.number(uint64(len(x.Kids)), 2)
	for _, k := range x.Kids {
		w.tree(k)
	}
}

func (w *writer) text(s string) {
	w.number(uint64(len(s)), 2)
	w.WriteString(s)
}

// number writes a number in so many bytes, the highest first.
func (w *writer) number(n uint64, size int) {
	for size > 0 {
		size--
		w.WriteByte(byte(n >> (8 * size)))
	}
}
