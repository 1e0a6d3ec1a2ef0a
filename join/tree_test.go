package join_test

import (
	"math/rand/v2"
	"slices"
	"testing"

	"espalier/api"
	"espalier/join"
	"espalier/label"
	"espalier/names"
	"espalier/tree"
)

var words = []string{"a", "b", "c"}

func el(name string, kids ...api.Tree) api.Tree {
	return api.Tree{Kind: api.Element, Name: name, Kids: kids}
}

// anyTree is a tree of elements of few names, with texts among them.
func anyTree(r *rand.Rand, deep int) api.Tree {
	if r.IntN(6) == 0 {
		return api.Tree{Kind: api.Text, Text: "t"}
	}
	x := el(words[r.IntN(len(words))])
	for range r.IntN(4) {
		if deep > 0 {
			x.Kids = append(x.Kids, anyTree(r, deep-1))
		}
	}
	return x
}

// byTree is the pairs of two names by going up through the tree, without any label; and of each inner one its nearest.
func byTree(t *testing.T, d *tree.Doc, outer, inner string, direct bool) (all, nearest []api.Pair) {
	t.Helper()
	nodes, _ := d.All(0)
	for _, n := range nodes {
		if x, _ := d.Get(n); x.Kind != api.Element || x.Name != inner {
			continue
		}
		var up []api.Pair
		for p, _ := d.Parent(n); p != 0; p, _ = d.Parent(p) {
			if x, _ := d.Get(p); x.Name == outer {
				up = append(up, api.Pair{Outer: p, Inner: n})
			}
			if direct {
				break
			}
		}
		if len(up) > 0 {
			nearest = append(nearest, up[0])
		}
		slices.Reverse(up)
		all = append(all, up...)
	}
	return all, nearest
}

// asTheTree holds the joins of all pairs of names against the tree.
func asTheTree(t *testing.T, x *names.Index) (seen [2]int) {
	t.Helper()
	d := x.Doc().Tree()
	for _, outer := range words {
		for _, inner := range words {
			a, in := x.Named(outer), x.Named(inner)
			for n, direct := range []bool{false, true} {
				want, nearest := byTree(t, d, outer, inner, direct)
				got, e := join.Pairs(a, in, direct)
				if e != api.OK || !slices.Equal(got, want) {
					t.Fatalf("Pairs of %s, %s, %t: %x, %d; want %x", outer, inner, direct, got, e, want)
				}
				seen[n] += len(want)
				if !direct {
					if got, e := join.Nearest(a, in); e != api.OK || !slices.Equal(got, nearest) {
						t.Fatalf("Nearest of %s, %s: %x, %d; want %x", outer, inner, got, e, nearest)
					}
				}
				sides(t, a, in, direct, want)
			}
		}
	}
	return seen
}

// sides holds what is told of one list against the pairs of the tree.
func sides(t *testing.T, a, d []api.Placed, direct bool, pairs []api.Pair) {
	t.Helper()
	outer, inner := map[api.Handle]int{}, map[api.Handle]int{}
	for _, x := range pairs {
		outer[x.Outer]++
		inner[x.Inner]++
	}
	var w answer
	for _, x := range a {
		w.count = append(w.count, outer[x.Node])
		if outer[x.Node] > 0 {
			w.outer = append(w.outer, x)
		}
	}
	for _, x := range d {
		if inner[x.Node] > 0 {
			w.inner = append(w.inner, x)
		} else {
			w.without = append(w.without, x)
		}
	}
	g := ask(t, a, d, direct, api.OK, api.OK)
	w.pairs, w.nearest = pairs, g.nearest
	if !g.equal(w) {
		t.Fatalf("%v; want %v", g, w)
	}
}

// edit does something to a document; what is refused does no harm.
func edit(r *rand.Rand, x *names.Index) {
	all, _ := x.Doc().Tree().All(0)
	node := func() api.Handle {
		if len(all) == 0 || r.IntN(8) == 0 {
			return 0
		}
		return all[r.IntN(len(all))]
	}
	switch k := r.IntN(8); {
	case k < 4 && len(all) < 120:
		x.Insert(1+r.IntN(4), node(), anyTree(r, 4))
	case k < 6:
		x.Move(node(), 1+r.IntN(4), node())
	case k < 7:
		x.SetName(node(), words[r.IntN(len(words))])
	default:
		x.Delete(node())
	}
}

// P11.4: of the lists of two names, behind any edits.
func TestAsTheTree(t *testing.T) {
	r := dice(7)
	seen := [2]int{}
	for range 8 {
		x, _ := names.New(api.Image{})
		for range 50 {
			edit(r, x)
			n := asTheTree(t, x)
			seen[0], seen[1] = seen[0]+n[0], seen[1]+n[1]
		}
	}
	if seen[0] < 1000 || seen[1] < 1000 || seen[0] == seen[1] {
		t.Error(seen)
	}
}

// P11.4: where gaps close and labels become others.
func TestAsTheTreeCrowded(t *testing.T) {
	for _, where := range []int{api.First, api.Last, api.Before, api.After} {
		x, _ := names.New(api.Image{})
		a, _ := x.Insert(api.Last, 0, el("a", el("b", el("c")), el("b")))
		kids, _ := x.Doc().Tree().Kids(a)
		for i := range 500 {
			if _, e := x.Insert(where, kids[0], el(words[i%3])); e != api.OK {
				t.Fatal(e)
			}
		}
		asTheTree(t, x)
	}
}

// P11.4: in a document that is as deep and as full as can be.
func TestAsTheTreeDeep(t *testing.T) {
	deep := el("b")
	for i := range api.MaxDepth - 1 {
		if i%8 == 7 {
			deep = el("a", deep)
		} else {
			deep = el("c", deep)
		}
	}
	x, _ := names.New(api.Image{})
	for range api.MaxNodes / api.MaxDepth {
		if _, e := x.Insert(api.Last, 0, deep); e != api.OK {
			t.Fatal(e)
		}
	}
	d := x.Doc().Tree()
	for _, inner := range words[:2] {
		for _, direct := range []bool{false, true} {
			want, _ := byTree(t, d, "a", inner, direct)
			if got, e := join.Pairs(x.Named("a"), x.Named(inner), direct); e != api.OK || !slices.Equal(got, want) {
				t.Fatal(len(got), e, len(want))
			}
		}
	}
	if l, e := join.Pairs(x.Named("c"), x.Named("c"), false); len(l) != 0 || e != api.ErrLong {
		t.Error(len(l), e)
	}
}

// P11.4: all nodes with all nodes, texts too, are what is an ancestor, a parent in the tree.
func TestAsTheTreeAll(t *testing.T) {
	r := dice(8)
	for range 40 {
		d := &label.Doc{}
		for range 4 {
			d.Insert(1+r.IntN(2), 0, anyTree(r, 4))
		}
		all, nodes := d.Spans(), d.Tree()
		var want [2][]api.Pair
		for _, x := range all {
			p, _ := nodes.Parent(x.Node)
			if p != 0 {
				want[1] = append(want[1], api.Pair{Outer: p, Inner: x.Node})
			}
			var up []api.Pair
			for ; p != 0; p, _ = nodes.Parent(p) {
				up = append(up, api.Pair{Outer: p, Inner: x.Node})
			}
			slices.Reverse(up)
			want[0] = append(want[0], up...)
		}
		for n, direct := range []bool{false, true} {
			if got, e := join.Pairs(all, all, direct); e != api.OK || !slices.Equal(got, want[n]) {
				t.Fatal(got, e, want[n])
			}
		}
		if got, e := join.Nearest(all, all); e != api.OK || !slices.Equal(got, want[1]) {
			t.Fatal(got, e, want[1])
		}
	}
}
