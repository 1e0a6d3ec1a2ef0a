package differ_test

import (
	"slices"
	"strconv"
	"testing"
	"time"

	"espalier/api"
	"espalier/differ"
	"espalier/tree"
)

// soon: it takes a time that leaves room for slow machines, but not for what grows without bound.
func soon(t *testing.T, what string, do func()) {
	t.Helper()
	begin := time.Now()
	do()
	if took := time.Since(begin); took > 3*time.Minute {
		t.Errorf("%s took %v", what, took)
	}
}

// turned is a forest from behind, at each level.
func turned(f []api.Tree) []api.Tree {
	f = copyForest(f)
	slices.Reverse(f)
	for i := range f {
		f[i].Kids = turned(f[i].Kids)
	}
	return f
}

// fulls are forests of as many nodes as there may be.
func fulls() [][]api.Tree {
	var all, deep, pairs []api.Tree
	for i := range api.MaxNodes {
		all = append(all, el("n"+strconv.Itoa(i)))
		pairs = append(pairs, el("ab"[i%2:i%2+1]))
	}
	for range api.MaxNodes / api.MaxDepth {
		deep = append(deep, chain(api.MaxDepth))
	}
	wide := []api.Tree{el("w", all[1:]...)}
	m := newMaker(3)
	return [][]api.Tree{all, deep, pairs, turned(all), append(slices.Clone(pairs[1:]), pairs[0]), wide, turned(wide), m.forest(api.MaxNodes), m.forest(api.MaxNodes)}
}

// P18.1, P18.2: documents as full as may be: nothing can be put in ahead of what goes.
func TestFull(t *testing.T) {
	t.Parallel()
	all := fulls()
	for i, a := range all {
		if nodes(a) != api.MaxNodes {
			t.Fatalf("forest %d has %d nodes", i, nodes(a))
		}
		for _, step := range []int{1, 2, 5} {
			b := all[(i+step)%len(all)]
			soon(t, "Script", func() { scripted(t, a, b) })
			soon(t, "Between", func() {
				between(t, plant(t, a...), plant(t, b...))
				between(t, plant(t, a...), rehandled(t, b))
			})
		}
	}
}

// P18.1: documents as full as may be, that have most nodes in common: what stays lies in what goes.
func TestFullCommon(t *testing.T) {
	t.Parallel()
	for seed := range uint64(4) {
		m := newMaker(seed)
		a := m.doc(api.MaxNodes)
		b := a.Clone()
		for range 200 {
			done(b, m.op(b))
		}
		for b.Len() < api.MaxNodes {
			m.put(b)
		}
		between(t, a, b)
		between(t, b, a)
		gens := m.gens(api.MaxNodes)
		x, y := load(t, m.image(gens, 60)), load(t, m.image(gens, 60))
		for _, d := range []*tree.Doc{x, y} {
			for d.Len() < api.MaxNodes {
				m.put(d)
			}
		}
		between(t, x, y)
	}
}

// P18.1: what is new in a full document needs the room of what goes, in which there lies what stays.
func TestFullMakesRoom(t *testing.T) {
	x := el("w", flat(api.MaxNodes-2, el("k"))...)
	a := plant(t, el("r", x))
	b := a.Clone()
	all, _ := b.Kids(hd(2, 1))
	for _, n := range all[:10] {
		b.Move(n, api.Last, hd(1, 1))
	}
	b.Delete(hd(2, 1))
	for b.Len() < api.MaxNodes {
		b.Insert(api.First, hd(1, 1), el("n"))
	}
	between(t, a, b)
	between(t, b, a)
}

// shapes are forests of as many nodes as a distance may be asked of, of those shapes by which it takes the most.
func shapes() [][]api.Tree {
	const n = api.MaxDistance
	comb, twigs := []api.Tree{el("a")}, []api.Tree{el("a")}
	for nodes(comb) < n-1 {
		comb = []api.Tree{el("a", append([]api.Tree{el("a")}, comb...)...)}
		twigs = []api.Tree{el("a", append(twigs, el("b"))...)}
	}
	var halves []api.Tree
	for nodes(halves) < n {
		halves = append(halves, chain(4))
	}
	m := newMaker(4)
	return [][]api.Tree{comb, twigs, halves, {chain(n)}, flat(n, text("x")), m.forest(n), m.forest(n), m.forest(n)}
}

// P18.4: as many nodes as may be.
func TestDistanceFull(t *testing.T) {
	t.Parallel()
	for _, a := range shapes() {
		for _, b := range shapes() {
			soon(t, "Distance", func() { apart(t, a, b, distance(t, a, b)) })
		}
	}
}

// P18.4: nodes that hold as much as they may are held against each other only once.
func TestDistanceLong(t *testing.T) {
	t.Parallel()
	x, y := el("a"), el("a")
	for i := range api.MaxAttrs {
		name := "a" + string([]byte{byte('a' + i/16), byte('a' + i%16)})
		x, y = with(x, name, long(api.MaxText)), with(y, name, long(api.MaxText)[1:]+"x")
	}
	y.Attrs[api.MaxAttrs-1].Value = long(api.MaxText-1) + "y"
	soon(t, "Distance", func() { apart(t, flat(api.MaxDistance, x), flat(api.MaxDistance, y), api.MaxDistance) })
	soon(t, "Script", func() { scripted(t, flat(100, x), append(flat(100, y), x)) })
}

// Trees that hold themselves are trees that can't be.
func TestSelfHeld(t *testing.T) {
	x := el("a", el("b"))
	x.Kids[0] = x
	wide := el("a", flat(100, el("b"))...)
	for i := range wide.Kids {
		wide.Kids[i] = wide
	}
	for _, f := range [][]api.Tree{{x}, {wide}, {el("a"), x}} {
		if l, e := differ.Script(f, nil); len(l) != 0 || e != api.ErrLong {
			t.Errorf("Script: %d", e)
		}
		if n, e := differ.Distance(nil, f); n != 0 || e != api.ErrLong {
			t.Errorf("Distance: %d, %d", n, e)
		}
		unpatched(t, f, nil, 0, api.ErrLong)
		unpatched(t, nil, []api.Op{insert(api.Last, 0, f[len(f)-1])}, 0, api.ErrLong)
	}
}
