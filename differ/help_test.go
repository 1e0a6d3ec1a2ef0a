package differ_test

import (
	"slices"
	"strings"
	"testing"

	"espalier/api"
	"espalier/differ"
	"espalier/tree"
)

func el(name string, kids ...api.Tree) api.Tree {
	return api.Tree{Kind: api.Element, Name: name, Kids: kids}
}

func text(s string) api.Tree { return api.Tree{Kind: api.Text, Text: s} }

// with is an element with attributes: name, value, name, value ..
func with(x api.Tree, l ...string) api.Tree {
	for i := 0; i < len(l); i += 2 {
		x.Attrs = append(x.Attrs, api.Attr{Name: l[i], Value: l[i+1]})
	}
	return x
}

// hd is the handle of an index and a generation, by the words of chapter 3.
func hd(index, gen uint64) api.Handle { return api.Handle(gen*(1<<32) + index) }

func long(n int) string { return strings.Repeat("x", n) }

// chain is so many elements, one in the other.
func chain(n int) api.Tree {
	x := el("c")
	for range n - 1 {
		x = el("c", x)
	}
	return x
}

// flat is so many trees.
func flat(n int, x api.Tree) []api.Tree {
	l := make([]api.Tree, n)
	for i := range l {
		l[i] = x
	}
	return l
}

func plant(t *testing.T, l ...api.Tree) *tree.Doc {
	t.Helper()
	d := &tree.Doc{}
	for _, x := range l {
		if _, e := d.Insert(api.Last, 0, x); e != api.OK {
			t.Fatalf("Insert: %d", e)
		}
	}
	return d
}

func load(t *testing.T, x api.Image) *tree.Doc {
	t.Helper()
	d, e := tree.Load(x)
	if e != api.OK {
		t.Fatalf("Load: %d", e)
	}
	return d
}

// plain is a forest in a short form: a[k=1](b(c 't')).
func plain(l []api.Tree) string {
	var out []string
	for _, x := range l {
		if x.Kind == api.Text {
			out = append(out, "'"+x.Text+"'")
			continue
		}
		s := x.Name
		for _, a := range x.Attrs {
			s += "[" + a.Name + "=" + a.Value + "]"
		}
		if len(x.Kids) > 0 {
			s += "(" + plain(x.Kids) + ")"
		}
		out = append(out, s)
	}
	return strings.Join(out, " ")
}

// short is the beginning of what may be long.
func short(l []api.Tree) string {
	s := plain(l)
	return s[:min(len(s), 2000)]
}

// sameTree: all fields are the same.
func sameTree(a, b api.Tree) bool {
	return a.Kind == b.Kind && a.Name == b.Name && slices.Equal(a.Attrs, b.Attrs) && a.Text == b.Text && sameForest(a.Kids, b.Kids)
}

func sameForest(a, b []api.Tree) bool { return slices.EqualFunc(a, b, sameTree) }

func sameOp(a, b api.Op) bool {
	return a.Kind == b.Kind && a.Node == b.Node && a.At == b.At && a.Where == b.Where && a.Name == b.Name && a.Value == b.Value && sameTree(a.Tree, b.Tree)
}

func sameSlot(a, b api.Slot) bool {
	return a.Gen == b.Gen && a.Live == b.Live && a.Kind == b.Kind && a.Name == b.Name && slices.Equal(a.Attrs, b.Attrs) && a.Text == b.Text && a.Parent == b.Parent && slices.Equal(a.Kids, b.Kids)
}

func sameImage(a, b api.Image) bool {
	return slices.EqualFunc(a.Slots, b.Slots, sameSlot) && slices.Equal(a.Roots, b.Roots)
}

func copyForest(l []api.Tree) []api.Tree {
	l = slices.Clone(l)
	for i, x := range l {
		l[i].Attrs = slices.Clone(x.Attrs)
		l[i].Kids = copyForest(x.Kids)
	}
	return l
}

func copyOps(l []api.Op) []api.Op {
	l = slices.Clone(l)
	for i, op := range l {
		l[i].Tree = copyForest([]api.Tree{op.Tree})[0]
	}
	return l
}

// size is how many nodes and attributes a forest has.
func size(l []api.Tree) int {
	n := len(l)
	for _, x := range l {
		n += len(x.Attrs) + size(x.Kids)
	}
	return n
}

// done does an edit by the words of the chapter; false, if it is none, or refused.
func done(d *tree.Doc, op api.Op) bool {
	e := api.ErrScript
	switch op.Kind {
	case api.OpInsert:
		_, e = d.Insert(op.Where, op.At, op.Tree)
	case api.OpMove:
		e = d.Move(op.Node, op.Where, op.At)
	case api.OpDelete:
		e = d.Delete(op.Node)
	case api.OpName:
		e = d.SetName(op.Node, op.Name)
	case api.OpText:
		e = d.SetText(op.Node, op.Value)
	case api.OpAttr:
		e = d.SetAttr(op.Node, op.Name, op.Value)
	case api.OpDropAttr:
		e = d.DropAttr(op.Node, op.Name)
	}
	return e == api.OK
}

// lean: an edit has nothing but what its Kind uses.
func lean(op api.Op) bool {
	x := api.Op{Kind: op.Kind, Node: op.Node}
	switch op.Kind {
	case api.OpInsert:
		x = api.Op{Kind: op.Kind, Where: op.Where, At: op.At, Tree: op.Tree}
	case api.OpMove:
		x.Where, x.At = op.Where, op.At
	case api.OpName, api.OpDropAttr:
		x.Name = op.Name
	case api.OpText:
		x.Value = op.Value
	case api.OpAttr:
		x.Name, x.Value = op.Name, op.Value
	}
	return sameOp(x, op)
}

// places is where each node of a document stands: the number among its siblings of each node around it, and its own.
func places(d *tree.Doc) map[api.Handle]string {
	at := map[api.Handle]string{}
	var walk func(l []api.Handle, around string)
	walk = func(l []api.Handle, around string) {
		for i, n := range l {
			at[n] = around + string(rune('0'+i)) + "/"
			kids, _ := d.Kids(n)
			walk(kids, at[n])
		}
	}
	walk(d.Roots(), "")
	return at
}

// common is the nodes that two documents have in common.
func common(a, b *tree.Doc) []api.Handle {
	all, _ := a.All(0)
	return slices.DeleteFunc(all, func(n api.Handle) bool {
		x, _ := a.Get(n)
		y, e := b.Get(n)
		return e != api.OK || x.Kind != y.Kind
	})
}

// between: Between's edits of two documents are as P18.1 says.
func between(t *testing.T, a, b *tree.Doc) []api.Op {
	t.Helper()
	wasA, wasB := a.Image(), b.Image()
	l, e := differ.Between(a, b)
	if e != api.OK {
		t.Fatalf("Between of %s and %s: %d", short(a.Forest()), short(b.Forest()), e)
	}
	if !sameImage(a.Image(), wasA) || !sameImage(b.Image(), wasB) {
		t.Fatalf("Between changed %s or %s", short(a.Forest()), short(b.Forest()))
	}
	makes(t, a, b, l)
	return l
}

// makes: the edits, done on a document that is as a, make its forest b's, with the common nodes where they stand in b.
func makes(t *testing.T, a, b *tree.Doc, l []api.Op) {
	t.Helper()
	d := a.Clone()
	for i, op := range l {
		if !lean(op) {
			t.Fatalf("edit %d has more than it needs: %v", i, op)
		}
		if !done(d, op) {
			t.Fatalf("edit %d of %d is refused: %v; it has %s, from %s to %s", i, len(l), op, short(d.Forest()), short(a.Forest()), short(b.Forest()))
		}
	}
	if !sameForest(d.Forest(), b.Forest()) {
		t.Fatalf("%s; want %s, from %s", short(d.Forest()), short(b.Forest()), short(a.Forest()))
	}
	was, is, wants := places(a), places(d), places(b)
	still := sameForest(a.Forest(), b.Forest())
	for _, n := range common(a, b) {
		if is[n] != wants[n] {
			t.Fatalf("%x stands at %s; want %s", n, is[n], wants[n])
		}
		still = still && was[n] == wants[n]
	}
	if still && len(l) > 0 {
		t.Fatalf("%d edits where all is as it has to be", len(l))
	}
	few(t, a.Forest(), b.Forest(), l)
}

// few: there are no more edits than P18.1 says.
func few(t *testing.T, a, b []api.Tree, l []api.Op) {
	t.Helper()
	if most := 16*(size(a)+size(b)) + 16; len(l) > most {
		t.Fatalf("%d edits; at most %d", len(l), most)
	}
}

// scripted: Script's edits from a to b are as P18.2 says.
func scripted(t *testing.T, a, b []api.Tree) []api.Op {
	t.Helper()
	wasA, wasB := copyForest(a), copyForest(b)
	l, e := differ.Script(a, b)
	if e != api.OK {
		t.Fatalf("Script of %s and %s: %d", short(a), short(b), e)
	}
	if !sameForest(a, wasA) || !sameForest(b, wasB) {
		t.Fatalf("Script changed %s or %s", short(a), short(b))
	}
	makes(t, plant(t, a...), rehandled(t, b), l)
	patched(t, a, l, b)
	return l
}

// rehandled is a document of a forest whose handles are none of another one's: so the two have no nodes in common.
func rehandled(t *testing.T, f []api.Tree) *tree.Doc {
	t.Helper()
	x := plant(t, f...).Image()
	turn := func(l []api.Handle) {
		for i := range l {
			l[i] += hd(0, 6)
		}
	}
	turn(x.Roots)
	for i := range x.Slots {
		x.Slots[i].Gen += 6
		turn(x.Slots[i].Kids)
		if x.Slots[i].Parent != 0 {
			x.Slots[i].Parent += hd(0, 6)
		}
	}
	return load(t, x)
}

// patched: Patch of f and the edits is that forest.
func patched(t *testing.T, f []api.Tree, l []api.Op, want []api.Tree) {
	t.Helper()
	wasF, wasL := copyForest(f), copyOps(l)
	got, at, e := differ.Patch(f, l)
	if at != 0 || e != api.OK || !sameForest(got, want) {
		t.Fatalf("Patch of %s: %s, %d, %d; want %s", short(f), short(got), at, e, short(want))
	}
	if !sameForest(f, wasF) || !slices.EqualFunc(l, wasL, sameOp) {
		t.Fatalf("Patch changed %s or the edits", short(f))
	}
}

// unpatched: Patch of f and the edits is none, that number, and that error.
func unpatched(t *testing.T, f []api.Tree, l []api.Op, number int, want api.Errno) {
	t.Helper()
	got, at, e := differ.Patch(f, l)
	if len(got) != 0 || at != number || e != want {
		t.Errorf("Patch of %s: %s, %d, %d; want %d, %d", short(f), short(got), at, e, number, want)
	}
}

// apart: that is the distance of two forests, there and back.
func apart(t *testing.T, a, b []api.Tree, want int) {
	t.Helper()
	for range 2 {
		if n, e := differ.Distance(a, b); n != want || e != api.OK {
			t.Fatalf("Distance of %s and %s: %d, %d; want %d", short(a), short(b), n, e, want)
		}
		a, b = b, a
	}
}

// distance is that of two forests that have one.
func distance(t *testing.T, a, b []api.Tree) int {
	t.Helper()
	n, e := differ.Distance(a, b)
	if e != api.OK {
		t.Fatalf("Distance of %s and %s: %d", short(a), short(b), e)
	}
	return n
}

// The edits, one function each.

func insert(where int, at api.Handle, x api.Tree) api.Op {
	return api.Op{Kind: api.OpInsert, Where: where, At: at, Tree: x}
}

func move(n api.Handle, where int, at api.Handle) api.Op {
	return api.Op{Kind: api.OpMove, Node: n, Where: where, At: at}
}

func remove(n api.Handle) api.Op { return api.Op{Kind: api.OpDelete, Node: n} }

func rename(n api.Handle, name string) api.Op {
	return api.Op{Kind: api.OpName, Node: n, Name: name}
}

func retext(n api.Handle, s string) api.Op {
	return api.Op{Kind: api.OpText, Node: n, Value: s}
}

func attr(n api.Handle, name, value string) api.Op {
	return api.Op{Kind: api.OpAttr, Node: n, Name: name, Value: value}
}

func drop(n api.Handle, name string) api.Op {
	return api.Op{Kind: api.OpDropAttr, Node: n, Name: name}
}
