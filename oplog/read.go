package oplog

import "espalier/api"

// reader reads what a writer wrote. Of bytes that can't be that it reads zeros, and bad says so.
type reader struct {
	rest  []byte
	nodes int // how many nodes of the tree were begun
	bad   bool
}

// frameLen is how many bytes the frame has that b begins with; false, if b has fewer.
func frameLen(b []byte) (int, bool) {
	if len(b) < head+foot {
		return 0, false
	}
	body := number(b[:head])
	if uint64(len(b)-head-foot) < body {
		return 0, false
	}
	return head + int(body) + foot, true
}

// readEdit reads a body; false, if it is not just that of an edit that can be logged.
func readEdit(body []byte) (api.Op, bool) {
	r := reader{rest: body}
	op := api.Op{Kind: int(r.number(1))}
	p, _ := partsOf(op.Kind)
	if p.node {
		op.Node = api.Handle(r.number(8))
	}
	if p.where {
		op.At = api.Handle(r.number(8))
		op.Where = int(r.number(1))
	}
	if p.name {
		op.Name = r.text()
	}
	if p.value {
		op.Value = r.text()
	}
	if p.tree {
		op.Tree = r.tree()
	}
	return op, !r.bad && len(r.rest) == 0 && canLog(op)
}

// tree reads a tree, as far as it has no more nodes than can be: so nobody who makes up bytes can lead it into any depth.
func (r *reader) tree() api.Tree {
	r.nodes++
	if r.nodes > api.MaxNodes {
		r.bad = true
	}
	x := api.Tree{Kind: int(r.number(1))}
	if x.Kind == api.Text {
		x.Text = r.text()
		return x
	}
	x.Name = r.text()
	for n := r.number(1); n > 0 && !r.bad; n-- {
		x.Attrs = append(x.Attrs, api.Attr{Name: r.text(), Value: r.text()})
	}
	for n := r.number(2); n > 0 && !r.bad; n-- {
		x.Kids = append(x.Kids, r.tree())
	}
	return x
}

func (r *reader) text() string { return string(r.take(int(r.number(2)))) }

func (r *reader) number(size int) uint64 { return number(r.take(size)) }

// take is the next bytes, so many; none, if there are not so many.
func (r *reader) take(n int) []byte {
	if r.bad || n > len(r.rest) {
		r.bad = true
		return nil
	}
	b := r.rest[:n]
	r.rest = r.rest[n:]
	return b
}

// number is what was written in bytes, the highest first.
func number(b []byte) uint64 {
	n := uint64(0)
	for _, x := range b {
		n = n<<8 | uint64(x)
	}
	return n
}
