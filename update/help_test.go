package update_test

import (
	"slices"
	"strings"
	"testing"

	"espalier/api"
	"espalier/label"
	"espalier/update"
)

func el(name string, kids ...api.Tree) api.Tree {
	return api.Tree{Kind: api.Element, Name: name, Kids: kids}
}

func text(s string) api.Tree { return api.Tree{Kind: api.Text, Text: s} }

// hd is the handle of an index and a generation, by the words of chapter 3.
func hd(index, gen uint64) api.Handle { return api.Handle(gen*(1<<32) + index) }

// chain is so many elements, one in the other.
func chain(n int) api.Tree {
	x := el("c")
	for range n - 1 {
		x = el("c", x)
	}
	return x
}

// wide is an element with so many texts in it, n nodes in all.
func wide(n int) api.Tree {
	x := el("w")
	for range n - 1 {
		x.Kids = append(x.Kids, text(""))
	}
	return x
}

func long(n int) string { return strings.Repeat("x", n) }

// abc is <a k="1"><b><c/>t</b><d/></a><e/>; its handles are of the indexes 1 to 6.
func abc(t *testing.T) *label.Doc {
	t.Helper()
	a := el("a", el("b", el("c"), text("t")), el("d"))
	a.Attrs = []api.Attr{{Name: "k", Value: "1"}}
	return plant(t, a, el("e"))
}

// The handles of abc.
const (
	ha = api.Handle(1<<32 + 1 + iota)
	hb
	hc
	ht
	hdd
	he
)

func plant(t *testing.T, l ...api.Tree) *label.Doc {
	t.Helper()
	d := &label.Doc{}
	for _, x := range l {
		if _, e := d.Insert(api.Last, 0, x); e != api.OK {
			t.Fatalf("Insert: %d", e)
		}
	}
	return d
}

// plain is a forest in a short form: a[k=1](b(c 't')).
func plain(l []api.Tree) string {
	var out []string
	for _, x := range l {
		if x.Kind == api.Text {
			out = append(out, "'"+x.Text+"'")
			continue
		}
		s := x.Name
		for _, a := range x.Attrs {
			s += "[" + a.Name + "=" + a.Value + "]"
		}
		if len(x.Kids) > 0 {
			s += "(" + plain(x.Kids) + ")"
		}
		out = append(out, s)
	}
	return strings.Join(out, " ")
}

// state is all that a document answers when it is not edited.
type state struct {
	image        api.Image
	spans        []api.Placed
	tags, writes uint64
}

func stateOf(d *label.Doc) state {
	return state{d.Tree().Image(), d.Spans(), d.Tags(), d.Writes()}
}

func sameSlot(a, b api.Slot) bool {
	return a.Gen == b.Gen && a.Live == b.Live && a.Kind == b.Kind && a.Name == b.Name && slices.Equal(a.Attrs, b.Attrs) && a.Text == b.Text && a.Parent == b.Parent && slices.Equal(a.Kids, b.Kids)
}

func sameState(a, b state) bool {
	return slices.EqualFunc(a.image.Slots, b.image.Slots, sameSlot) && slices.Equal(a.image.Roots, b.image.Roots) && slices.Equal(a.spans, b.spans) && a.tags == b.tags && a.writes == b.writes
}

func alike(t *testing.T, what string, d, want *label.Doc) {
	t.Helper()
	a, b := stateOf(d), stateOf(want)
	if !sameState(a, b) {
		t.Fatalf("%s: %s, %d tags, %d writes; want %s, %d, %d", what, plain(d.Tree().Forest()), a.tags, a.writes, plain(want.Tree().Forest()), b.tags, b.writes)
	}
}

func sameTree(a, b api.Tree) bool {
	return a.Kind == b.Kind && a.Name == b.Name && slices.Equal(a.Attrs, b.Attrs) && a.Text == b.Text && slices.EqualFunc(a.Kids, b.Kids, sameTree)
}

func sameOp(a, b api.Op) bool {
	return a.Kind == b.Kind && a.Node == b.Node && a.At == b.At && a.Where == b.Where && a.Name == b.Name && a.Value == b.Value && sameTree(a.Tree, b.Tree)
}

func copyTree(x api.Tree) api.Tree {
	x.Attrs = slices.Clone(x.Attrs)
	x.Kids = slices.Clone(x.Kids)
	for i, k := range x.Kids {
		x.Kids[i] = copyTree(k)
	}
	return x
}

func copyOps(l []api.Op) []api.Op {
	l = slices.Clone(l)
	for i := range l {
		l[i].Tree = copyTree(l[i].Tree)
	}
	return l
}

// applied: the list is made, and puts these in; then the document is this.
func applied(t *testing.T, d *label.Doc, l []api.Op, put []api.Handle, forest string) {
	t.Helper()
	tried(t, d, l, put, 0, api.OK)
	got, at, e := update.Apply(d, l)
	if !slices.Equal(got, put) || at != 0 || e != api.OK {
		t.Errorf("Apply: %x, %d, %d; want %x", got, at, e, put)
	}
	if s := plain(d.Tree().Forest()); s != forest {
		t.Errorf("%s; want %s", s, forest)
	}
}

// refused: the edit of that number is, with that error, and nothing is changed.
func refused(t *testing.T, d *label.Doc, l []api.Op, number int, want api.Errno) {
	t.Helper()
	tried(t, d, l, nil, number, want)
	was := stateOf(d)
	got, at, e := update.Apply(d, l)
	if len(got) != 0 || at != number || e != want {
		t.Errorf("Apply: %x, %d, %d; want %d, %d", got, at, e, number, want)
	}
	if !sameState(stateOf(d), was) {
		t.Errorf("a list that is refused changed the document to %s", plain(d.Tree().Forest()))
	}
}

// tried: Trial answers this, and changes nothing.
func tried(t *testing.T, d *label.Doc, l []api.Op, put []api.Handle, number int, want api.Errno) {
	t.Helper()
	was := stateOf(d)
	got, at, e := update.Trial(d, l)
	if !slices.Equal(got, put) || at != number || e != want {
		t.Errorf("Trial: %x, %d, %d; want %x, %d, %d", got, at, e, put, number, want)
	}
	if !sameState(stateOf(d), was) {
		t.Errorf("Trial changed the document to %s", plain(d.Tree().Forest()))
	}
}

func checked(t *testing.T, l []api.Op, number int, want api.Errno) {
	t.Helper()
	if at, e := update.Check(l); at != number || e != want {
		t.Errorf("Check: %d, %d; want %d, %d", at, e, number, want)
	}
}

// The edits, one function each.

func insert(where int, at api.Handle, x api.Tree) api.Op {
	return api.Op{Kind: api.OpInsert, Where: where, At: at, Tree: x}
}

func move(n api.Handle, where int, at api.Handle) api.Op {
	return api.Op{Kind: api.OpMove, Node: n, Where: where, At: at}
}

func remove(n api.Handle) api.Op { return api.Op{Kind: api.OpDelete, Node: n} }

func rename(n api.Handle, name string) api.Op {
	return api.Op{Kind: api.OpName, Node: n, Name: name}
}

func retext(n api.Handle, s string) api.Op {
	return api.Op{Kind: api.OpText, Node: n, Value: s}
}

func attr(n api.Handle, name, value string) api.Op {
	return api.Op{Kind: api.OpAttr, Node: n, Name: name, Value: value}
}

func drop(n api.Handle, name string) api.Op {
	return api.Op{Kind: api.OpDropAttr, Node: n, Name: name}
}

func replace(n api.Handle, x api.Tree) api.Op {
	return api.Op{Kind: api.OpReplace, Node: n, Tree: x}
}
