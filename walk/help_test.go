package walk_test

import (
	"iter"
	"math/rand/v2"
	"slices"
	"testing"

	"espalier/api"
	"espalier/tree"
	"espalier/walk"
)

func dice(seed uint64) *rand.Rand { return rand.New(rand.NewPCG(seed, 10)) }

func el(name string, kids ...api.Tree) api.Tree {
	return api.Tree{Kind: api.Element, Name: name, Kids: kids}
}

func words(text string) api.Tree { return api.Tree{Kind: api.Text, Text: text} }

// docOf is a document of these roots, and its nodes in document order.
func docOf(t *testing.T, roots ...api.Tree) (*tree.Doc, []api.Handle) {
	t.Helper()
	d := &tree.Doc{}
	for _, x := range roots {
		if _, e := d.Insert(api.Last, 0, x); e != api.OK {
			t.Fatalf("Insert: %d", e)
		}
	}
	all, _ := d.All(0)
	return d, all
}

// dead is a handle that was of a node of d and is no more.
func dead(t *testing.T, d *tree.Doc) api.Handle {
	t.Helper()
	n, e := d.Insert(api.Last, 0, el("x"))
	if e != api.OK || d.Delete(n) != api.OK {
		t.Fatal(n, e)
	}
	return n
}

func axisOf(t *testing.T, d *tree.Doc, axis int, n api.Handle) iter.Seq[api.Handle] {
	t.Helper()
	s, e := walk.Axis(d, axis, n)
	if s == nil || e != api.OK {
		t.Fatalf("Axis %d of %x: nil %t, %d", axis, n, s == nil, e)
	}
	return s
}

func nodesOf(t *testing.T, d *tree.Doc, axis int, n api.Handle) []api.Handle {
	t.Helper()
	return slices.Collect(axisOf(t, d, axis, n))
}

// namesOf is the names of nodes, of texts their texts.
func namesOf(d *tree.Doc, l []api.Handle) string {
	out := ""
	for _, n := range l {
		x, e := d.Get(n)
		if e != api.OK {
			return "no node"
		}
		out += x.Name + x.Text
	}
	return out
}

func equal[T comparable](t *testing.T, what string, got, want []T) {
	t.Helper()
	if !slices.Equal(got, want) {
		t.Errorf("%s: %v; want %v", what, got, want)
	}
}

// place is where a node begins and ends, counted as one goes through the document, and what it lies in.
type place struct {
	begin, end int
	parent     api.Handle
}

// places is the places of all nodes: from them the axes are told by the chapter's words alone.
func places(d *tree.Doc) map[api.Handle]place {
	out := map[api.Handle]place{}
	count := 0
	var enter func(l []api.Handle, parent api.Handle)
	enter = func(l []api.Handle, parent api.Handle) {
		for _, n := range l {
			count++
			p := place{begin: count, parent: parent}
			kids, _ := d.Kids(n)
			enter(kids, n)
			count++
			p.end = count
			out[n] = p
		}
	}
	enter(d.Roots(), 0)
	return out
}

// isOn tells whether m is on an axis of n.
func isOn(of map[api.Handle]place, axis int, m, n api.Handle) bool {
	a, b := of[m], of[n]
	around := a.begin < b.begin && b.end < a.end
	in := b.begin < a.begin && a.end < b.end
	switch axis {
	case 1:
		return a.parent == n
	case 2:
		return in
	case 3:
		return in || m == n
	case 4:
		return b.parent == m
	case 5:
		return around
	case 6:
		return around || m == n
	case 7:
		return a.begin > b.end
	case 8:
		return a.end < b.begin
	case 9:
		return a.begin > b.end && a.parent == b.parent
	case 10:
		return a.end < b.begin && a.parent == b.parent
	}
	return m == n
}

// isBack tells whether an axis goes against document order.
func isBack(axis int) bool { return slices.Contains([]int{4, 5, 6, 8, 10}, axis) }

// told is the nodes of an axis of n in its order.
func told(of map[api.Handle]place, axis int, n api.Handle) []api.Handle {
	var l []api.Handle
	for m := range of {
		if isOn(of, axis, m, n) {
			l = append(l, m)
		}
	}
	slices.SortFunc(l, func(a, b api.Handle) int {
		if isBack(axis) {
			a, b = b, a
		}
		return of[a].begin - of[b].begin
	})
	return l
}

// anyTree is a tree of some nodes, texts among them.
func anyTree(r *rand.Rand, deep int) api.Tree {
	if r.IntN(4) == 0 {
		return words("t")
	}
	x := el("a")
	for range r.IntN(4) {
		if deep > 0 {
			x.Kids = append(x.Kids, anyTree(r, deep-1))
		}
	}
	return x
}

// edit does something to a document; what is refused does no harm.
func edit(r *rand.Rand, d *tree.Doc) {
	all, _ := d.All(0)
	node := func() api.Handle {
		if len(all) == 0 || r.IntN(8) == 0 {
			return 0
		}
		return all[r.IntN(len(all))]
	}
	switch k := r.IntN(6); {
	case k < 3 && len(all) < 40:
		d.Insert(1+r.IntN(4), node(), anyTree(r, 3))
	case k < 5:
		d.Move(node(), 1+r.IntN(4), node())
	default:
		d.Delete(node())
	}
}

// tap is an iterator of numbers from 0 on that counts what is done with it.
type tap struct {
	most    int // how many it tells; below 0: it never ends
	begun   int // how often it was begun to be gone through
	asked   int // how many it was asked for and told, in all
	stopped int // how often it was told to stop
	ended   int // how often it came to its own end
}

func (p *tap) seq() iter.Seq[int] {
	return func(yield func(int) bool) {
		p.begun++
		for i := 0; i != p.most; i++ {
			p.asked++
			if !yield(i) {
				p.stopped++
				return
			}
		}
		p.ended++
	}
}

// did holds a tap against what should have been done with it.
func (p *tap) did(t *testing.T, what string, begun, asked, stopped, ended int) {
	t.Helper()
	if p.begun != begun || p.asked != asked || p.stopped != stopped || p.ended != ended {
		t.Errorf("%s: begun %d, asked %d, stopped %d, ended %d; want %d, %d, %d, %d", what, p.begun, p.asked, p.stopped, p.ended, begun, asked, stopped, ended)
	}
}

func upTo(n int) []int {
	var l []int
	for i := range n {
		l = append(l, i)
	}
	return l
}

// first goes through an iterator until it has so many (at least one), and fails if it is told more.
func first[T any](t *testing.T, s iter.Seq[T], n int) []T {
	t.Helper()
	var l []T
	s(func(x T) bool {
		if len(l) >= n {
			t.Errorf("it went on behind %d", n)
		}
		l = append(l, x)
		return len(l) < n
	})
	return l
}

// apart is all first ones and all second ones of pairs.
func apart[T, U any](s iter.Seq2[T, U]) (l []T, m []U) {
	for x, y := range s {
		l, m = append(l, x), append(m, y)
	}
	return l, m
}

// panics is what a call panics with; nil, if it does not.
func panics(call func()) (what any) {
	defer func() { what = recover() }()
	call()
	return nil
}

// drain goes through all of an iterator.
func drain[T any](s iter.Seq[T]) {
	for range s {
	}
}
