package twig_test

import (
	"math/rand/v2"
	"slices"
	"testing"

	"espalier/api"
	"espalier/label"
	"espalier/tree"
	"espalier/twig"
)

var words = []string{"a", "b", "c"}

func el(name string, kids ...api.Tree) api.Tree {
	return api.Tree{Kind: api.Element, Name: name, Kids: kids}
}

// anyTree is a tree of elements of few names, with texts among them.
func anyTree(r *rand.Rand, deep int) api.Tree {
	if r.IntN(6) == 0 {
		return api.Tree{Kind: api.Text, Text: "t"}
	}
	x := el(words[r.IntN(len(words))])
	for range r.IntN(4) {
		if deep > 0 {
			x.Kids = append(x.Kids, anyTree(r, deep-1))
		}
	}
	return x
}

// byTree is all that a pattern meets of which the first node is one of some, by going down through the tree, without any label.
func byTree(d *tree.Doc, t api.Twig, nodes []api.Handle) [][]api.Handle {
	var out [][]api.Handle
	for _, n := range nodes {
		if x, _ := d.Get(n); t.Name != "" && x.Name != t.Name {
			continue
		}
		found := [][]api.Handle{{n}}
		for _, k := range t.Kids {
			below, _ := d.Kids(n)
			if !k.Direct {
				below, _ = d.All(n)
				below = below[1:]
			}
			found = product(found, byTree(d, k, below))
		}
		out = append(out, found...)
	}
	return out
}

// product is each of one list with each of another one behind it.
func product(a, b [][]api.Handle) [][]api.Handle {
	var out [][]api.Handle
	for _, x := range a {
		for _, y := range b {
			out = append(out, slices.Concat(x, y))
		}
	}
	return out
}

// namedTwig gives the nodes of a pattern names, or none.
func namedTwig(r *rand.Rand, t api.Twig) api.Twig {
	t.Name = append(slices.Clone(words), "")[r.IntN(4)]
	for i := range t.Kids {
		t.Kids[i] = namedTwig(r, t.Kids[i])
	}
	return t
}

// asTheTree holds what is found in a document by labels against what is found in its tree.
func asTheTree(t *testing.T, d *label.Doc, x api.Twig) int {
	t.Helper()
	nodes := d.Tree()
	lists, e := twig.Lists(x, d.Spans(), func(n api.Handle) string {
		y, _ := nodes.Get(n)
		return y.Name
	})
	if e != api.OK {
		t.Fatal(e)
	}
	all, _ := nodes.All(0)
	want := byTree(nodes, x, all)
	n, e := twig.Count(x, lists)
	if n != uint64(len(want)) || e != api.OK {
		t.Fatalf("%v: %d, %d; want %d", x, n, e, len(want))
	}
	if len(want) > api.MaxPairs {
		return 0
	}
	got, e := twig.Find(x, lists, api.MaxPairs)
	if e != api.OK || !same(got, want) {
		t.Fatalf("%v: %x, %d; want %x", x, got, e, want)
	}
	return len(want)
}

// P12.2, P12.4, P12.5: what is found by labels is what lies so in the tree, behind any edits.
func TestAsTheTree(t *testing.T) {
	r := dice(30)
	seen := 0
	for range 40 {
		var d label.Doc
		for range 30 {
			all, _ := d.Tree().All(0)
			node := func() api.Handle {
				if len(all) == 0 || r.IntN(8) == 0 {
					return 0
				}
				return all[r.IntN(len(all))]
			}
			switch k := r.IntN(7); {
			case k < 4 && len(all) < 40:
				d.Insert(1+r.IntN(4), node(), anyTree(r, 3))
			case k < 6:
				d.Move(node(), 1+r.IntN(4), node())
			default:
				d.Delete(node())
			}
			for range 3 {
				seen += asTheTree(t, &d, namedTwig(r, anyTwig(r, 1+r.IntN(4))))
			}
		}
	}
	if seen < 10000 {
		t.Error(seen)
	}
}

// P12.2, P12.3: in a document that is as deep and as full as can be.
func TestAsTheTreeFull(t *testing.T) {
	deep := el("b")
	for i := range api.MaxDepth - 1 {
		deep = el([]string{"a", "c", "c", "c"}[i%4], deep)
	}
	var d label.Doc
	for range api.MaxNodes / api.MaxDepth {
		if _, e := d.Insert(api.Last, 0, deep); e != api.OK {
			t.Fatal(e)
		}
	}
	a, b, c := named("a", on()), named("b", on()), named("c", on())
	for i, x := range []api.Twig{
		a, named("a", on(b)), named("a", on(a)), named("b", on(a)), named("c", on(named("a", under()), b)),
		named("c", on(named("c", under(named("c", under(named("a", under()))))))), named("a", on(b, b, named("b", under()))),
	} {
		if n := asTheTree(t, &d, x); n == 0 && i != 3 {
			t.Error(x)
		}
	}
	asTheTree(t, &d, named("c", on(c, b)))
}
