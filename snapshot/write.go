package snapshot

import (
	"bytes"

	"espalier/api"
	"espalier/oplog"
)

// header is what a snapshot begins with, foot how many bytes its sum has.
const (
	header = "espalier\x01"
	foot   = 4
)

// dead is the byte of a slot without a node; of the others it is their node's kind.
const dead = 0

// more stands in each byte of a number but the last.
const more = 0x80

// writer writes what snapshots are made of, one thing behind the other.
type writer struct{ bytes.Buffer }

func (w *writer) image(x api.Image) {
	w.number(uint64(len(x.Slots)))
	for _, s := range x.Slots {
		w.slot(s)
	}
	w.handles(x.Roots)
}

func (w *writer) slot(s api.Slot) {
	w.number(uint64(s.Gen))
	if !s.Live {
		w.WriteByte(dead)
		return
	}
	w.WriteByte(byte(s.Kind))
	if s.Kind == api.Text {
		w.text(s.Text)
		w.handle(s.Parent)
		return
	}
	w.text(s.Name)
	w.number(uint64(len(s.Attrs)))
	for _, a := range s.Attrs {
		w.text(a.Name)
		w.text(a.Value)
	}
	w.handle(s.Parent)
	w.handles(s.Kids)
}

func (w *writer) handles(l []api.Handle) {
	w.number(uint64(len(l)))
	for _, h := range l {
		w.handle(h)
	}
}

// handle writes the index alone: the generation is told by the slot.
func (w *writer) handle(h api.Handle) { w.number(uint64(uint32(h))) }

func (w *writer) text(s string) {
	w.number(uint64(len(s)))
	w.WriteString(s)
}

// number writes seven bits a byte, the lowest first.
func (w *writer) number(n uint64) {
	for n >= more {
		w.WriteByte(byte(n) | more)
		n >>= 7
	}
	w.WriteByte(byte(n))
}

// sum writes the sum of all that was written.
func (w *writer) sum() {
	n := oplog.Sum(w.Bytes())
	w.Write([]byte{byte(n >> 24), byte(n >> 16), byte(n >> 8), byte(n)})
}
