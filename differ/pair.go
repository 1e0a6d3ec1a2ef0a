package differ

import (
	"espalier/api"
	"espalier/markup"
	"espalier/tree"
)

// pairs is, by nodes of b, which nodes of a are to become them: each of the same Kind, and of one alone.
type pairs map[api.Handle]api.Handle

// commonOf pairs the nodes that two documents have, by their handles.
func commonOf(a, b *tree.Doc) pairs {
	p := pairs{}
	for _, n := range allOf(b) {
		x, e := a.Get(n)
		y, _ := b.Get(n)
		if e == api.OK && x.Kind == y.Kind {
			p[n] = n
		}
	}
	return p
}

// standAlike tells whether two documents' forests are the same, and what they have in common stands at the same places.
func standAlike(a, b *tree.Doc, common pairs) bool {
	if !markup.Same(a.Forest(), b.Forest()) {
		return false
	}
	there := allOf(a)
	for i, n := range allOf(b) {
		if h, is := common[n]; is && h != there[i] {
			return false
		}
	}
	return true
}

// finder pairs nodes of two documents by what they hold.
type finder struct {
	a, b  *tree.Doc
	alike map[api.Handle]likeness // of a's nodes
	like  map[api.Handle]likeness // of b's
	found pairs
	taken map[api.Handle]struct{} // the nodes of a that are paired
}

// alikeIn pairs the nodes of two documents that hold the same, or nearly so: first those whose parents are paired, too, from the roots downwards.
func alikeIn(a, b *tree.Doc) pairs {
	n := numbering{words: map[string]int{}, lists: map[string]int{}}
	f := finder{a: a, b: b, alike: n.of(a), like: n.of(b), found: pairs{}, taken: map[api.Handle]struct{}{}}
	f.align(a.Roots(), b.Roots(), whole)
	f.seek()
	return f.found
}

// align pairs siblings, as they stand behind each other: first those that are alike in one way, then, between each two of these, in the next one.
func (f *finder) align(la, lb []api.Handle, way int) {
	if way == ways || len(la) == 0 || len(lb) == 0 {
		return
	}
	i, j := 0, 0
	for _, p := range longest(numbers(f.alike, la, way), numbers(f.like, lb, way)) {
		f.align(la[i:p[0]], lb[j:p[1]], way+1)
		f.meet(la[p[0]], lb[p[1]], way)
		i, j = p[0]+1, p[1]+1
	}
	f.align(la[i:], lb[j:], way+1)
}

// meet pairs two nodes that are alike in a way, and what lies in them.
func (f *finder) meet(x, y api.Handle, way int) {
	if way == whole {
		f.meetWhole(x, y)
		return
	}
	f.pair(x, y)
	f.align(kidsOf(f.a, x), kidsOf(f.b, y), whole)
}

// meetWhole pairs two nodes that are the same with all within them.
func (f *finder) meetWhole(x, y api.Handle) {
	within, _ := f.a.All(x)
	there, _ := f.b.All(y)
	for i, n := range within {
		f.pair(n, there[i])
	}
}

func (f *finder) pair(x, y api.Handle) {
	f.found[y] = x
	f.taken[x] = struct{}{}
}

// seek pairs what is left of b with the same that is left of a, wherever it stands. It is not done for single nodes: these are the same by chance too often, and shorter put in than moved.
func (f *finder) seek() {
	left := map[int][]api.Handle{}
	for _, x := range allOf(f.a) {
		number := f.alike[x][whole]
		left[number] = append(left[number], x)
	}
	for _, y := range allOf(f.b) {
		_, paired := f.found[y]
		if paired || len(kidsOf(f.b, y)) == 0 {
			continue
		}
		number := f.like[y][whole]
		for l := left[number]; len(l) > 0; l = left[number] {
			left[number] = l[1:]
			if f.isFree(l[0]) {
				f.meetWhole(l[0], y)
				break
			}
		}
	}
}

// isFree tells whether neither a node of a nor one within it is paired.
func (f *finder) isFree(x api.Handle) bool {
	within, _ := f.a.All(x)
	for _, n := range within {
		if _, taken := f.taken[n]; taken {
			return false
		}
	}
	return true
}

// allOf is all nodes of a document, in document order.
func allOf(d *tree.Doc) []api.Handle {
	l, _ := d.All(0)
	return l
}

// kidsOf is the children of a node, or of 0 the roots.
func kidsOf(d *tree.Doc, n api.Handle) []api.Handle {
	if n == 0 {
		return d.Roots()
	}
	l, _ := d.Kids(n)
	return l
}
