package axis_test

import (
	"math/rand/v2"
	"slices"
	"testing"

	"espalier/api"
	"espalier/axis"
	"espalier/label"
	"espalier/tree"
)

func el(kids ...api.Tree) api.Tree {
	return api.Tree{Kind: api.Element, Name: "a", Kids: kids}
}

// kin is a document's nodes as the tree has them, without any label.
type kin struct {
	parent map[api.Handle]api.Handle
	place  map[api.Handle]int // in document order
	all    []api.Handle
}

func kinOf(t *testing.T, d *tree.Doc) kin {
	t.Helper()
	all, _ := d.All(0)
	k := kin{map[api.Handle]api.Handle{}, map[api.Handle]int{}, all}
	for i, n := range all {
		p, e := d.Parent(n)
		if e != api.OK {
			t.Fatalf("Parent(%x): %d", n, e)
		}
		k.parent[n], k.place[n] = p, i
	}
	return k
}

// within tells whether b lies somewhere in a, by going up.
func (k kin) within(b, a api.Handle) bool {
	for p := k.parent[b]; p != 0; p = k.parent[p] {
		if p == a {
			return true
		}
	}
	return false
}

// common is the innermost node that is a or around it, and b or around it, by going up; 0, if there is none.
func (k kin) common(a, b api.Handle) api.Handle {
	for p := a; p != 0; p = k.parent[p] {
		if p == b || k.within(b, p) {
			return p
		}
	}
	return 0
}

// relation is how a lies as seen from b, by the tree.
func (k kin) relation(a, b api.Handle) int {
	switch {
	case a == b:
		return api.IsSelf
	case k.parent[b] == a:
		return api.IsParent
	case k.parent[a] == b:
		return api.IsChild
	case k.within(b, a):
		return api.IsAncestor
	case k.within(a, b):
		return api.IsDescendant
	case k.place[a] > k.place[b]:
		return api.IsFollowing
	}
	return api.IsPreceding
}

// document is a document with labels, and what was read of it once for all pairs.
type document struct {
	kin
	span map[api.Handle]api.Span
	list []api.Span
}

func documentOf(t *testing.T, d *label.Doc) document {
	t.Helper()
	x := document{kin: kinOf(t, d.Tree()), span: map[api.Handle]api.Span{}}
	for _, p := range d.Spans() {
		x.span[p.Node] = p.Span
		x.list = append(x.list, p.Span)
	}
	check(t, x.list, 0, api.OK)
	return x
}

// pair holds each test of two nodes against the tree.
func (x document) pair(t *testing.T, m, n api.Handle) {
	t.Helper()
	a, b, r := x.span[m], x.span[n], x.relation(m, n)
	parent, root := x.span[x.parent[n]], x.parent[n] == 0
	siblings := x.parent[m] == x.parent[n]
	for i, y := range []struct{ got, want bool }{
		{axis.Self(a, b), m == n},
		{axis.Parent(a, b), r == api.IsParent},
		{axis.Child(a, b), r == api.IsChild},
		{axis.Ancestor(a, b), r == api.IsAncestor || r == api.IsParent},
		{axis.Descendant(a, b), r == api.IsDescendant || r == api.IsChild},
		{axis.Following(a, b), r == api.IsFollowing},
		{axis.Preceding(a, b), r == api.IsPreceding},
		{axis.FollowingSibling(a, b, parent, root), r == api.IsFollowing && siblings},
		{axis.PrecedingSibling(a, b, parent, root), r == api.IsPreceding && siblings},
	} {
		if y.got != y.want {
			t.Fatalf("test %d of %x %v, %x %v: %t", i, m, a, n, b, y.got)
		}
	}
	if got, e := axis.Relation(a, b); got != r || e != api.OK {
		t.Fatalf("Relation of %x %v, %x %v: %d, %d; want %d", m, a, n, b, got, e, r)
	}
}

// around holds Common of two nodes, among all of the document, against the tree.
func (x document) around(t *testing.T, m, n api.Handle) {
	t.Helper()
	want := x.common(m, n)
	if s, ok := axis.Common(x.list, x.span[m], x.span[n]); s != x.span[want] || ok != (want != 0) {
		t.Fatalf("Common of %x, %x: %v, %t; want %v", m, n, s, ok, x.span[want])
	}
}

func (x document) allPairs(t *testing.T) {
	t.Helper()
	for _, m := range x.all {
		for _, n := range x.all {
			x.pair(t, m, n)
			x.around(t, m, n)
		}
	}
}

// somePairs is for documents that are too great for all pairs: each node and its parent by some others.
func (x document) somePairs(t *testing.T, r *rand.Rand, each int) {
	t.Helper()
	for i, m := range x.all {
		near := []api.Handle{m, x.all[max(i-1, 0)], x.all[min(i+1, len(x.all)-1)]}
		if p := x.parent[m]; p != 0 {
			near = append(near, p)
		}
		for range each {
			near = append(near, x.all[r.IntN(len(x.all))])
		}
		for _, n := range near {
			x.pair(t, m, n)
			x.pair(t, n, m)
		}
		if i%64 == 0 {
			x.around(t, m, near[len(near)-1])
		}
	}
}

// anyTree is a tree of some nodes, texts among them.
func anyTree(r *rand.Rand, deep int) api.Tree {
	if r.IntN(4) == 0 {
		return api.Tree{Kind: api.Text, Text: "t"}
	}
	x := el()
	for range r.IntN(4) {
		if deep > 0 {
			x.Kids = append(x.Kids, anyTree(r, deep-1))
		}
	}
	return x
}

// edit does something to a document; what is refused does no harm.
func edit(r *rand.Rand, d *label.Doc, all []api.Handle) {
	node := func() api.Handle {
		if len(all) == 0 || r.IntN(8) == 0 {
			return 0
		}
		return all[r.IntN(len(all))]
	}
	switch k := r.IntN(6); {
	case k < 3 && len(all) < 60:
		d.Insert(1+r.IntN(4), node(), anyTree(r, 3))
	case k < 5:
		d.Move(node(), 1+r.IntN(4), node())
	default:
		d.Delete(node())
	}
}

// P9.6: the document's first example of the whole.
func TestLoaded(t *testing.T) {
	d := &label.Doc{}
	a, _ := d.Insert(api.Last, 0, el(el()))
	x := documentOf(t, d)
	b := x.all[1]
	if !axis.Ancestor(x.span[a], x.span[b]) {
		t.Error(x.list)
	}
	if n, e := axis.Relation(x.span[b], x.span[a]); n != api.IsChild || e != api.OK {
		t.Error(n, e)
	}
}

// P9.6: of any two nodes each test is true just if it is so in the tree, behind any edits.
func TestAsTheTree(t *testing.T) {
	r := dice(7)
	relations := map[int]int{}
	for range 8 {
		d := &label.Doc{}
		for range 60 {
			all, _ := d.Tree().All(0)
			edit(r, d, all)
			x := documentOf(t, d)
			x.allPairs(t)
			for _, m := range x.all {
				relations[x.relation(m, x.all[0])]++
				relations[x.relation(x.all[0], m)]++
			}
		}
	}
	if len(relations) != 7 {
		t.Error(relations)
	}
}

// P9.6: where gaps close and labels become others.
func TestAsTheTreeCrowded(t *testing.T) {
	r := dice(8)
	for _, where := range []int{api.First, api.Last, api.Before, api.After} {
		d := &label.Doc{}
		a, _ := d.Insert(api.Last, 0, el(el(el()), el()))
		kids, _ := d.Tree().Kids(a)
		for range 700 {
			if _, e := d.Insert(where, kids[0], el()); e != api.OK {
				t.Fatal(e)
			}
		}
		if d.Writes() == d.Tags() {
			t.Error("no label became another one")
		}
		documentOf(t, d).somePairs(t, r, 20)
	}
}

// P9.6: in full documents: as deep as can be, and as wide.
func TestAsTheTreeFull(t *testing.T) {
	r := dice(9)
	deep := el()
	for range api.MaxDepth - 1 {
		deep = el(deep)
	}
	d := &label.Doc{}
	for range api.MaxNodes / api.MaxDepth {
		if _, e := d.Insert(1+r.IntN(2), 0, deep); e != api.OK {
			t.Fatal(e)
		}
	}
	x := documentOf(t, d)
	if len(x.all) != api.MaxNodes {
		t.Fatal(len(x.all))
	}
	x.somePairs(t, r, 10)
	wide := el(slices.Repeat([]api.Tree{el()}, api.MaxNodes-1)...)
	d = &label.Doc{}
	if _, e := d.Insert(api.Last, 0, wide); e != api.OK {
		t.Fatal(e)
	}
	documentOf(t, d).somePairs(t, r, 10)
}

// P9.6: with a span that is not that of the parent there are no siblings; of roots the parent plays no part.
func TestAsTheTreeParents(t *testing.T) {
	d := &label.Doc{}
	d.Insert(api.Last, 0, el(el(el(), el()), el(el())))
	d.Insert(api.Last, 0, el(el()))
	x := documentOf(t, d)
	for _, m := range x.all {
		for _, n := range x.all {
			a, b, r := x.span[m], x.span[n], x.relation(m, n)
			roots := x.parent[m] == 0 && x.parent[n] == 0
			for _, p := range x.all {
				both := x.parent[m] == p && x.parent[n] == p
				if axis.FollowingSibling(a, b, x.span[p], false) != (both && r == api.IsFollowing) || axis.PrecedingSibling(a, b, x.span[p], false) != (both && r == api.IsPreceding) {
					t.Fatal(m, n, p)
				}
				if axis.FollowingSibling(a, b, x.span[p], true) != (roots && r == api.IsFollowing) || axis.PrecedingSibling(a, b, x.span[p], true) != (roots && r == api.IsPreceding) {
					t.Fatal(m, n, p)
				}
			}
		}
	}
}
