package label_test

import (
	"math"
	"math/rand"
	"slices"
	"testing"

	"espalier/api"
	"espalier/label"
)

// The chapter's second example, at all places at which nodes can come again and again, until the document is full.
func TestFull(t *testing.T) {
	for name, put := range map[string]func(r, last api.Handle) (int, api.Handle){
		"first root":       func(r, last api.Handle) (int, api.Handle) { return api.First, 0 },
		"last root":        func(r, last api.Handle) (int, api.Handle) { return api.Last, 0 },
		"first child":      func(r, last api.Handle) (int, api.Handle) { return api.First, r },
		"last child":       func(r, last api.Handle) (int, api.Handle) { return api.Last, r },
		"ahead of one":     func(r, last api.Handle) (int, api.Handle) { return api.Before, r },
		"behind one":       func(r, last api.Handle) (int, api.Handle) { return api.After, r },
		"ahead of the new": func(r, last api.Handle) (int, api.Handle) { return api.Before, last },
		"behind the new":   func(r, last api.Handle) (int, api.Handle) { return api.After, last },
	} {
		var d label.Doc
		insert(t, &d, api.Last, 0, el("r"))
		insert(t, &d, api.Last, 0, el("s"))
		r := hd(1, 1)
		last := r
		for i := range api.MaxNodes - 2 {
			where, at := put(r, last)
			last = insert(t, &d, where, at, text(""))
			if i%1024 == 0 {
				holds(t, &d)
			}
		}
		holds(t, &d)
		was := stateOf(&d)
		where, at := put(r, last)
		if n, e := d.Insert(where, at, text("")); n != 0 || e != api.ErrTooMany {
			t.Errorf("%s: %x, %d", name, n, e)
		}
		unchanged(t, &d, was)
		// A full document has all tags that a list can have: moves are not refused for that.
		for range 40 {
			answers(t, name, d.Move(last, api.First, r), api.OK)
			answers(t, name, d.Move(r, api.Last, 0), api.OK)
			answers(t, name, d.Move(last, api.First, 0), api.OK)
		}
		holds(t, &d)
	}
}

// P5.4: a gap closes for moved subtrees as for those that are put in.
func TestMovesIntoOneGap(t *testing.T) {
	var d label.Doc
	r := insert(t, &d, api.Last, 0, el("r"))
	var l []api.Handle
	for range 100 {
		l = append(l, insert(t, &d, api.Last, 0, el("x", el("y", text("")), text(""))))
	}
	r0 := rand.New(rand.NewSource(1))
	for i := range 8000 {
		n := l[r0.Intn(len(l))]
		where, at := api.First, r
		if i%3 == 0 {
			where, at = api.After, r
		}
		if e := d.Move(n, where, at); e != api.OK {
			t.Fatal(e)
		}
		if i%400 == 0 {
			holds(t, &d)
		}
	}
	holds(t, &d)
	if d.Tags() != 2+100*8+8000*8 {
		t.Error(d.Tags())
	}
}

// P5.4: one place between two that stay, thousands of times, while what was put in is taken away again.
func TestComingAndGoing(t *testing.T) {
	var d label.Doc
	r := insert(t, &d, api.Last, 0, el("r", text("first"), text("last")))
	first := hd(2, 1)
	var l []api.Handle
	for i := range 20000 {
		l = append(l, insert(t, &d, api.After, first, text("")))
		if len(l) > 5 {
			answers(t, "Delete", d.Delete(l[0]), api.OK)
			l = l[1:]
		}
		if i%1000 == 0 {
			holds(t, &d)
		}
	}
	holds(t, &d)
	kids, _ := d.Tree().Kids(r)
	slices.Reverse(l)
	if want := slices.Concat([]api.Handle{first}, l, []api.Handle{hd(3, 1)}); !slices.Equal(kids, want) {
		t.Errorf("%x; want %x", kids, want)
	}
}

// lie is how two spans lie to one another, by their numbers alone.
func lie(a, b api.Span) int {
	switch {
	case around(a, b) && a.Level == b.Level-1:
		return api.IsParent
	case around(a, b):
		return api.IsAncestor
	case around(b, a) && b.Level == a.Level-1:
		return api.IsChild
	case around(b, a):
		return api.IsDescendant
	case a.End < b.Begin:
		return api.IsPreceding
	case b.End < a.Begin:
		return api.IsFollowing
	case a == b:
		return api.IsSelf
	}
	return 0
}

// kept holds spans of before an edit against those behind it: how nodes lie that it did not touch stays. It answers how many labels of these became others.
func kept(t *testing.T, was, now []api.Placed, touched []api.Handle) uint64 {
	t.Helper()
	spans := map[api.Handle]api.Span{}
	for _, p := range now {
		spans[p.Node] = p.Span
	}
	was = slices.DeleteFunc(slices.Clone(was), func(p api.Placed) bool { return slices.Contains(touched, p.Node) })
	others := uint64(0)
	for _, p := range was {
		s, ok := spans[p.Node]
		if !ok {
			t.Fatalf("%x has no span any more", p.Node)
		}
		if s.Begin != p.Span.Begin {
			others++
		}
		if s.End != p.Span.End {
			others++
		}
		for _, q := range was {
			if before, behind := lie(p.Span, q.Span), lie(s, spans[q.Node]); before != behind || before == 0 {
				t.Fatalf("%x lies to %x as %d; did as %d", p.Node, q.Node, behind, before)
			}
		}
	}
	return others
}

// P5.5, P5.3: edits at few places of a small document, so that gaps close soon: how the others lie stays; each label that became another one was counted as written.
func TestRelabel(t *testing.T) {
	others := uint64(0)
	for seed := range int64(20) {
		r := rand.New(rand.NewSource(seed))
		var d label.Doc
		insert(t, &d, api.Last, 0, el("r", el("a", text("")), el("b"), el("c", el("d"))))
		all, _ := d.Tree().All(0)
		fixed := slices.Clone(all)
		spot, where := fixed[r.Intn(len(fixed))], []int{api.Before, api.After}[r.Intn(2)]
		var l []api.Handle
		for range 300 {
			was, writes := d.Spans(), d.Writes()
			var touched []api.Handle
			switch k := r.Intn(8); {
			case k < 5 && len(l) < 20:
				n := insert(t, &d, where, spot, el("n", text("")))
				l = append(l, n)
				touched, _ = d.Tree().All(n)
			case k < 7 && len(l) > 0:
				n := l[r.Intn(len(l))]
				answers(t, "Move", d.Move(n, where, spot), api.OK)
				touched, _ = d.Tree().All(n)
			case len(l) > 10:
				touched, _ = d.Tree().All(l[0])
				answers(t, "Delete", d.Delete(l[0]), api.OK)
				l = l[1:]
			}
			now := d.Spans()
			n := kept(t, was, now, touched)
			others += n
			for _, h := range touched {
				if _, e := d.Span(h); e == api.OK {
					n += 2
				}
			}
			if got := d.Writes() - writes; got < n {
				t.Fatalf("%d labels were written, %d counted", n, got)
			}
		}
		holds(t, &d)
	}
	if others == 0 {
		t.Error("no label became another one: nothing was shown")
	}
}

// P5.7: of all pairs of nodes, by labels as in the tree.
func TestByLabels(t *testing.T) {
	for seed := range int64(10) {
		r := words{rand.New(rand.NewSource(seed))}
		var d label.Doc
		for range 60 {
			if k := r.Intn(3); k > 0 {
				d.Insert(r.Intn(4)+1, r.handle(d.Tree()), r.tree(3))
			} else {
				d.Move(r.handle(d.Tree()), r.Intn(4)+1, r.handle(d.Tree()))
			}
		}
		nodes := d.Tree()
		l := d.Spans()
		for i, p := range l {
			in, _ := nodes.All(p.Node)
			for j, q := range l {
				parent, _ := nodes.Parent(q.Node)
				if got := around(p.Span, q.Span); got != (i != j && slices.Contains(in, q.Node)) {
					t.Fatalf("%v around %v: %v", p, q, got)
				}
				if got := around(p.Span, q.Span) && p.Span.Level == q.Span.Level-1; got != (parent == p.Node) {
					t.Fatalf("%v the parent of %v: %v", p, q, got)
				}
				if got := p.Span.Begin < q.Span.Begin; got != (i < j) {
					t.Fatalf("%v ahead of %v: %v", p, q, got)
				}
			}
		}
	}
}

// P5.2: Find of whatever is no Begin.
func TestFindNone(t *testing.T) {
	d := abc(t)
	begins := map[uint64]int{}
	for _, p := range d.Spans() {
		begins[p.Span.Begin]++
	}
	for _, p := range d.Spans() {
		for _, x := range []uint64{p.Span.Begin - 1, p.Span.Begin + 1, p.Span.End - 1, p.Span.End, p.Span.End + 1} {
			if n, e := d.Find(x); begins[x] == 0 && (n != 0 || e != api.ErrNode) {
				t.Errorf("Find(%d): %x, %d", x, n, e)
			}
		}
	}
	for _, x := range []uint64{0, 1<<62 - 1, 1 << 62, 1 << 63, math.MaxUint64} {
		if n, e := d.Find(x); n != 0 || e != api.ErrNode {
			t.Errorf("Find(%d): %x, %d", x, n, e)
		}
	}
	for _, n := range noNodes() {
		if s, e := d.Span(n); s != (api.Span{}) || e != api.ErrNode {
			t.Errorf("Span(%x): %v, %d", n, s, e)
		}
	}
}

// P5.6: the worst that is known for labels that are halved: the widest gap filled from both sides, and from its middle.
func TestNotTooOften(t *testing.T) {
	for seed := range int64(6) {
		r := rand.New(rand.NewSource(seed))
		var d label.Doc
		l := []api.Handle{insert(t, &d, api.Last, 0, text(""))}
		for i := range api.MaxNodes - 1 {
			at := l[len(l)-1]
			if r.Intn(int(seed)+2) == 0 {
				at = l[r.Intn(len(l))]
			}
			l = append(l, insert(t, &d, api.Before+(i+r.Intn(2))%2, at, text("")))
			if w, n := d.Writes(), d.Tags(); w < n || w > 8*62*n {
				t.Fatalf("%d writes of %d tags", w, n)
			}
		}
		holds(t, &d)
	}
}
