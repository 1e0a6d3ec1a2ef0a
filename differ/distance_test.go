package differ_test

import (
	"slices"
	"testing"

	"espalier/api"
	"espalier/differ"
)

// world is all forests of few nodes, and which of them are one step apart: found by doing P18.4's steps.
type world struct {
	number map[string]int
	forest [][]api.Tree
	next   [][]int
}

// leaves are the nodes of the world.
func leaves() []api.Tree {
	return []api.Tree{el("a"), with(el("a"), "k", "1"), text("a")}
}

// newWorld has all forests of at most so many nodes.
func newWorld(most int) *world {
	w := &world{number: map[string]int{}}
	w.add(nil)
	for i := 0; i < len(w.forest); i++ {
		for _, f := range putIns(w.forest[i]) {
			if nodes(f) <= most {
				w.add(f)
			}
		}
	}
	w.next = make([][]int, len(w.forest))
	for i, f := range w.forest {
		for _, g := range append(putIns(f), changes(f)...) {
			if j, has := w.number[plain(g)]; has {
				w.next[i], w.next[j] = append(w.next[i], j), append(w.next[j], i)
			}
		}
	}
	return w
}

func (w *world) add(f []api.Tree) {
	if _, has := w.number[plain(f)]; !has {
		w.number[plain(f)] = len(w.forest)
		w.forest = append(w.forest, f)
	}
}

// nodes is how many a forest has.
func nodes(f []api.Tree) int {
	n := len(f)
	for _, x := range f {
		n += nodes(x.Kids)
	}
	return n
}

// putIns is what a forest becomes by one more node. To take one out is the same step backwards.
func putIns(f []api.Tree) [][]api.Tree {
	var l [][]api.Tree
	for i := range len(f) + 1 {
		for _, x := range leaves() {
			l = append(l, slices.Insert(slices.Clone(f), i, x))
			for j := i + 1; x.Kind == api.Element && j <= len(f); j++ {
				x.Kids = f[i:j]
				l = append(l, slices.Replace(slices.Clone(f), i, j, x))
			}
		}
	}
	return append(l, within(f, putIns)...)
}

// changes is what a forest becomes by another node in the place of one.
func changes(f []api.Tree) [][]api.Tree {
	var l [][]api.Tree
	for i := range f {
		for _, x := range leaves() {
			if x.Kind == api.Element || len(f[i].Kids) == 0 {
				g := slices.Clone(f)
				x.Kids = f[i].Kids
				g[i] = x
				l = append(l, g)
			}
		}
	}
	return append(l, within(f, changes)...)
}

// within is what a forest becomes by a step in what lies in its roots.
func within(f []api.Tree, step func([]api.Tree) [][]api.Tree) [][]api.Tree {
	var l [][]api.Tree
	for i, x := range f {
		if x.Kind != api.Element {
			continue
		}
		for _, kids := range step(x.Kids) {
			g := slices.Clone(f)
			g[i].Kids = kids
			l = append(l, g)
		}
	}
	return l
}

// from is how many steps it is to each forest, counted one by one.
func (w *world) from(i int) []int {
	far := make([]int, len(w.forest))
	for j := range far {
		far[j] = -1
	}
	far[i] = 0
	for todo := []int{i}; len(todo) > 0; todo = todo[1:] {
		for _, j := range w.next[todo[0]] {
			if far[j] < 0 {
				far[j] = far[todo[0]] + 1
				todo = append(todo, j)
			}
		}
	}
	return far
}

// P18.4: the least number of steps, against all ways that there are. On the way there may be more nodes than either forest has.
func TestDistanceByAllSteps(t *testing.T) {
	t.Parallel()
	w := newWorld(4)
	for i, a := range w.forest {
		if nodes(a) > 3 {
			continue
		}
		far := w.from(i)
		for j, b := range w.forest {
			if nodes(b) > 3 || j < i {
				continue
			}
			apart(t, a, b, far[j])
		}
	}
}

// byRoots is the distance of two forests by another rule: the first root of one of them is taken out, or both are turned into one another. Forests that were met are known.
func byRoots(a, b []api.Tree, known map[[2]string]int) int {
	if len(a) == 0 || len(b) == 0 {
		return nodes(a) + nodes(b)
	}
	key := [2]string{plain(a), plain(b)}
	if n, has := known[key]; has {
		return n
	}
	x, y := a[0], b[0]
	turn := 1
	if x.Kind == y.Kind && x.Name == y.Name && x.Text == y.Text && slices.Equal(x.Attrs, y.Attrs) {
		turn = 0
	}
	n := min(
		turn+byRoots(x.Kids, y.Kids, known)+byRoots(a[1:], b[1:], known),
		1+byRoots(slices.Concat(x.Kids, a[1:]), b, known),
		1+byRoots(a, slices.Concat(y.Kids, b[1:]), known))
	known[key] = n
	return n
}

// P18.4: any forests, against another rule.
func TestDistanceByRoots(t *testing.T) {
	t.Parallel()
	for seed := range uint64(400) {
		m := newMaker(seed)
		a := m.forest(m.IntN(14))
		b := m.forest(m.IntN(14))
		if m.IntN(2) == 0 {
			b = m.steps(a, m.IntN(5))
		}
		apart(t, a, b, byRoots(a, b, map[[2]string]int{}))
	}
}

// P18.4: what counts as a change, and what does not.
func TestDistanceOfNodes(t *testing.T) {
	a := with(el("a", text("x")), "k", "1")
	for _, b := range []api.Tree{
		with(el("b", text("x")), "k", "1"),
		with(el("a", text("x")), "k", "2"),
		with(el("a", text("x")), "j", "1"),
		with(el("a", text("x")), "k", "1", "l", ""),
		el("a", text("x")),
		with(el("a", text("y")), "k", "1"),
		with(el("a", text("")), "k", "1"),
		with(el("a", el("x")), "k", "1"),
		with(el("a"), "k", "1"),
		with(el("a", text("x"), text("x")), "k", "1"),
	} {
		apart(t, []api.Tree{a}, []api.Tree{b}, 1)
	}
	apart(t, nil, nil, 0)
	apart(t, nil, []api.Tree{a, text("")}, 3)
	// What a kind does not use plays no part.
	b := copyForest([]api.Tree{a})
	b[0].Text = "y"
	b[0].Kids[0] = api.Tree{Kind: api.Text, Text: "x", Name: "n", Kids: flat(40, el("1")), Attrs: []api.Attr{{}}}
	apart(t, []api.Tree{a}, b, 0)
	// An element that becomes a text loses what lies in it.
	apart(t, []api.Tree{el("x", text("y"))}, []api.Tree{text("y")}, 1)
	apart(t, []api.Tree{el("x", el("y"), el("z"))}, []api.Tree{text("x")}, 3)
	apart(t, []api.Tree{text("x")}, []api.Tree{el("x", text("x"))}, 1)
}

// The examples of the chapter.
func TestDistanceExamples(t *testing.T) {
	apart(t, []api.Tree{el("p", el("q"))}, []api.Tree{el("p")}, 1)
	apart(t, []api.Tree{el("p"), el("q")}, []api.Tree{el("p", el("q"))}, 2)
	apart(t, []api.Tree{text("x")}, []api.Tree{text("y")}, 1)
	apart(t, []api.Tree{text("x")}, []api.Tree{el("x")}, 1)
}

// P18.4: the first error: what a, then b is, then how many nodes there are.
func TestDistanceRefused(t *testing.T) {
	long := flat(api.MaxDistance+1, el("a"))
	for i, x := range []struct {
		a, b []api.Tree
		e    api.Errno
	}{
		{[]api.Tree{el("1")}, []api.Tree{{}}, api.ErrName},
		{[]api.Tree{{}}, []api.Tree{el("1")}, api.ErrArg},
		{long, []api.Tree{el("1")}, api.ErrName},
		{[]api.Tree{text("\x00")}, long, api.ErrText},
		{long, nil, api.ErrLong},
		{nil, long, api.ErrLong},
		{[]api.Tree{el("a", long...)}, long, api.ErrLong},
		{flat(api.MaxNodes+1, el("a")), []api.Tree{{}}, api.ErrLong},
		{nil, append(flat(api.MaxNodes+1, el("a")), el("1")), api.ErrName},
	} {
		if n, e := differ.Distance(x.a, x.b); n != 0 || e != x.e {
			t.Errorf("%d: %d, %d; want 0, %d", i, n, e, x.e)
		}
	}
	full := flat(api.MaxDistance, el("a"))
	apart(t, full, nil, api.MaxDistance)
	apart(t, full, flat(api.MaxDistance, el("b")), api.MaxDistance)
	apart(t, full, []api.Tree{chain(api.MaxDistance)}, 2*api.MaxDistance-1)
}
