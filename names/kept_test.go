package names

import (
	"math"
	"slices"
	"testing"

	"espalier/api"
	"espalier/label"
)

// Nothing is kept of names that nobody has, nor of nodes that are no more: no answer tells it, so this test looks inside.
func TestNothingKept(t *testing.T) {
	x, _ := New(api.Image{})
	for i := range 100 {
		name := "n" + string(rune('a'+i%26))
		n, _ := x.Insert(api.Last, 0, api.Tree{Kind: api.Element, Name: name, Attrs: []api.Attr{{Name: name}}, Kids: []api.Tree{{Kind: api.Text}}})
		if len(x.lists) != 4 {
			t.Fatal(len(x.lists))
		}
		x.SetName(n, "m")
		x.SetAttr(n, "k", "v")
		x.DropAttr(n, name)
		if len(x.lists) != 4 {
			t.Fatal(len(x.lists))
		}
		x.Named("nobody")
		x.Having("nobody")
		x.Within("nobody", n)
		x.Next("nobody", n)
		x.Delete(n)
		if len(x.lists) != 0 {
			t.Fatal(len(x.lists))
		}
	}
}

// The nodes that stand here once more are those of the document, their texts too, though no list goes by these.
func TestNodesTwice(t *testing.T) {
	x, _ := New(api.Image{})
	n, _ := x.Insert(api.Last, 0, api.Tree{Kind: api.Element, Name: "a", Kids: []api.Tree{{Kind: api.Text, Text: "t"}}})
	kids, _ := x.nodes.Kids(n)
	x.SetText(kids[0], "u")
	x.SetText(kids[0], "\x00")
	x.SetAttr(n, "k", "v")
	x.Move(kids[0], api.Before, n)
	x.Delete(n)
	x.Insert(api.First, 0, api.Tree{Kind: api.Text})
	same := func(a, b api.Slot) bool {
		return a.Gen == b.Gen && a.Live == b.Live && a.Kind == b.Kind && a.Text == b.Text
	}
	a, b := x.nodes.Image(), x.doc.Tree().Image()
	if !slices.EqualFunc(a.Slots, b.Slots, same) || !slices.Equal(a.Roots, b.Roots) {
		t.Error(a, b)
	}
}

// What stands under a key that nobody can ask for is not kept.
func TestNobodysKey(t *testing.T) {
	var d label.Doc
	d.Insert(api.Last, 0, api.Tree{Kind: api.Text})
	d.Insert(api.Last, 0, api.Tree{Kind: api.Text})
	l, _ := By(&d, func(api.Tree) (float64, bool) { return math.NaN(), true })
	if l.Len() != 2 || len(l.of) != 0 {
		t.Error(l.Len(), len(l.of))
	}
}
