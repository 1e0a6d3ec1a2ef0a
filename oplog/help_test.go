package oplog_test

import (
	"encoding/binary"
	"encoding/hex"
	"hash/fnv"
	"slices"
	"strings"
	"testing"
	"time"

	"espalier/api"
	"espalier/label"
	"espalier/oplog"
)

func el(name string, kids ...api.Tree) api.Tree {
	return api.Tree{Kind: api.Element, Name: name, Kids: kids}
}

func text(s string) api.Tree { return api.Tree{Kind: api.Text, Text: s} }

// with is an element with attributes: name, value, name, value ..
func with(x api.Tree, l ...string) api.Tree {
	for i := 0; i < len(l); i += 2 {
		x.Attrs = append(x.Attrs, api.Attr{Name: l[i], Value: l[i+1]})
	}
	return x
}

// hd is the handle of an index and a generation, by the words of chapter 3.
func hd(index, gen uint64) api.Handle { return api.Handle(gen*(1<<32) + index) }

func long(n int) string { return strings.Repeat("x", n) }

// chain is so many elements, one in the other.
func chain(n int) api.Tree {
	x := el("c")
	for range n - 1 {
		x = el("c", x)
	}
	return x
}

// wide is an element with texts in it, n nodes in all.
func wide(n int) api.Tree {
	x := el("w")
	for range n - 1 {
		x.Kids = append(x.Kids, text(""))
	}
	return x
}

// The edits, one function each.

func insert(where int, at api.Handle, x api.Tree) api.Op {
	return api.Op{Kind: api.OpInsert, Where: where, At: at, Tree: x}
}

func move(n api.Handle, where int, at api.Handle) api.Op {
	return api.Op{Kind: api.OpMove, Node: n, Where: where, At: at}
}

func remove(n api.Handle) api.Op { return api.Op{Kind: api.OpDelete, Node: n} }

func rename(n api.Handle, name string) api.Op {
	return api.Op{Kind: api.OpName, Node: n, Name: name}
}

func retext(n api.Handle, s string) api.Op {
	return api.Op{Kind: api.OpText, Node: n, Value: s}
}

func attr(n api.Handle, name, value string) api.Op {
	return api.Op{Kind: api.OpAttr, Node: n, Name: name, Value: value}
}

func drop(n api.Handle, name string) api.Op {
	return api.Op{Kind: api.OpDropAttr, Node: n, Name: name}
}

// sameTree: all fields are the same.
func sameTree(a, b api.Tree) bool {
	return a.Kind == b.Kind && a.Name == b.Name && slices.Equal(a.Attrs, b.Attrs) && a.Text == b.Text && slices.EqualFunc(a.Kids, b.Kids, sameTree)
}

func sameOp(a, b api.Op) bool {
	return a.Kind == b.Kind && a.Node == b.Node && a.At == b.At && a.Where == b.Where && a.Name == b.Name && a.Value == b.Value && sameTree(a.Tree, b.Tree)
}

func sameOps(a, b []api.Op) bool { return slices.EqualFunc(a, b, sameOp) }

func sameSlot(a, b api.Slot) bool {
	return a.Gen == b.Gen && a.Live == b.Live && a.Kind == b.Kind && a.Name == b.Name && slices.Equal(a.Attrs, b.Attrs) && a.Text == b.Text && a.Parent == b.Parent && slices.Equal(a.Kids, b.Kids)
}

func sameImage(a, b api.Image) bool {
	return slices.EqualFunc(a.Slots, b.Slots, sameSlot) && slices.Equal(a.Roots, b.Roots)
}

func copyTree(x api.Tree) api.Tree {
	x.Attrs, x.Kids = slices.Clone(x.Attrs), slices.Clone(x.Kids)
	for i, k := range x.Kids {
		x.Kids[i] = copyTree(k)
	}
	return x
}

func copyOps(l []api.Op) []api.Op {
	l = slices.Clone(l)
	for i, op := range l {
		l[i].Tree = copyTree(op.Tree)
	}
	return l
}

// leanTree is a tree without what its kinds do not use.
func leanTree(x api.Tree) api.Tree {
	if x.Kind == api.Text {
		return text(x.Text)
	}
	x = el(x.Name, x.Kids...)
	x.Kids = slices.Clone(x.Kids)
	for i, k := range x.Kids {
		x.Kids[i] = leanTree(k)
	}
	return x
}

// lean is an edit without what plays no part, by the words of chapter 19.
func lean(op api.Op) api.Op {
	switch op.Kind {
	case api.OpInsert:
		x := insert(op.Where, op.At, op.Tree)
		x.Tree = withAttrs(leanTree(op.Tree), op.Tree)
		return x
	case api.OpMove:
		return move(op.Node, op.Where, op.At)
	case api.OpName:
		return rename(op.Node, op.Name)
	case api.OpText:
		return retext(op.Node, op.Value)
	case api.OpAttr:
		return attr(op.Node, op.Name, op.Value)
	case api.OpDropAttr:
		return drop(op.Node, op.Name)
	}
	return remove(op.Node)
}

// withAttrs gives a lean tree's elements their attributes again.
func withAttrs(x, of api.Tree) api.Tree {
	if x.Kind == api.Element {
		x.Attrs = slices.Clone(of.Attrs)
		for i := range x.Kids {
			x.Kids[i] = withAttrs(x.Kids[i], of.Kids[i])
		}
	}
	return x
}

// The bytes by the words of chapter 19, made by another library than the program's.

func num(size int, n uint64) []byte { return binary.BigEndian.AppendUint64(nil, n)[8-size:] }

func str(s string) []byte { return append(num(2, uint64(len(s))), s...) }

func join(l ...[]byte) []byte { return slices.Concat(l...) }

func treeBytes(x api.Tree) []byte {
	if x.Kind == api.Text {
		return join([]byte{2}, str(x.Text))
	}
	b := join([]byte{1}, str(x.Name), num(1, uint64(len(x.Attrs))))
	for _, a := range x.Attrs {
		b = join(b, str(a.Name), str(a.Value))
	}
	b = join(b, num(2, uint64(len(x.Kids))))
	for _, k := range x.Kids {
		b = append(b, treeBytes(k)...)
	}
	return b
}

func bodyOf(op api.Op) []byte {
	kind, node, at, where := []byte{byte(op.Kind)}, num(8, uint64(op.Node)), num(8, uint64(op.At)), num(1, uint64(op.Where))
	switch op.Kind {
	case api.OpInsert:
		return join(kind, at, where, treeBytes(op.Tree))
	case api.OpMove:
		return join(kind, node, at, where)
	case api.OpDelete:
		return join(kind, node)
	case api.OpText:
		return join(kind, node, str(op.Value))
	case api.OpAttr:
		return join(kind, node, str(op.Name), str(op.Value))
	}
	return join(kind, node, str(op.Name))
}

// framed is a frame of any body.
func framed(body []byte) []byte {
	b := join(num(4, uint64(len(body))), body)
	h := fnv.New32a() // the chapter's sum under another name
	h.Write(b)
	return h.Sum(b)
}

func frameOf(op api.Op) []byte { return framed(bodyOf(op)) }

func framesOf(l []api.Op) []byte {
	var b []byte
	for _, op := range l {
		b = append(b, frameOf(op)...)
	}
	return b
}

func encode(t *testing.T, op api.Op) []byte {
	t.Helper()
	b, e := oplog.Encode(op)
	if e != api.OK {
		t.Fatalf("Encode of %v: %d", op, e)
	}
	return b
}

// decodes: the bytes begin with the frame of that edit.
func decodes(t *testing.T, b []byte, want api.Op, size int) {
	t.Helper()
	op, n, e := oplog.Decode(b)
	if e != api.OK || n != size || !sameOp(op, want) {
		t.Fatalf("Decode of %s: %v, %d, %d; want %v, %d", short(b), op, n, e, want, size)
	}
}

// undecoded: Decode answers that error, and nothing beside it.
func undecoded(t *testing.T, b []byte, want api.Errno) {
	t.Helper()
	op, n, e := oplog.Decode(b)
	if e != want || n != 0 || !sameOp(op, api.Op{}) {
		t.Fatalf("Decode of %s: %v, %d, %d; want %d", short(b), op, n, e, want)
	}
}

// reads: Read answers these edits, so many bytes, and that error.
func reads(t *testing.T, b []byte, want []api.Op, size int, why api.Errno) {
	t.Helper()
	l, n, e := oplog.Read(b)
	if e != why || n != size || !sameOps(l, want) {
		t.Fatalf("Read of %s: %d edits, %d, %d; want %d, %d, %d", short(b), len(l), n, e, len(want), size, why)
	}
}

// short is the beginning of what may be long.
func short(b []byte) string { return hex.EncodeToString(b[:min(len(b), 200)]) }

// plant is a document of these roots.
func plant(t *testing.T, l ...api.Tree) *label.Doc {
	t.Helper()
	d := &label.Doc{}
	for _, x := range l {
		if _, e := d.Insert(api.Last, 0, x); e != api.OK {
			t.Fatalf("Insert: %d", e)
		}
	}
	return d
}

func load(t *testing.T, x api.Image) *label.Doc {
	t.Helper()
	d, e := label.Load(x)
	if e != api.OK {
		t.Fatalf("Load: %d", e)
	}
	return d
}

func image(d *label.Doc) api.Image { return d.Tree().Image() }

// soon: it takes a time that leaves room for slow machines, but not for what grows without bound.
func soon(t *testing.T, what string, do func()) {
	t.Helper()
	begin := time.Now()
	do()
	if took := time.Since(begin); took > 3*time.Minute {
		t.Errorf("%s took %v", what, took)
	}
}
