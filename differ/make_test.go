package differ_test

import (
	"math/rand/v2"
	"slices"

	"espalier/api"
	"espalier/tree"
)

// maker makes forests, documents and edits, the same ones in each run.
type maker struct{ *rand.Rand }

func newMaker(seed uint64) maker { return maker{rand.New(rand.NewPCG(seed, 18))} }

func pick[T any](m maker, l []T) T { return l[m.IntN(len(l))] }

// node is a node of few names and texts, without children.
func (m maker) node() api.Tree {
	if m.IntN(3) == 0 {
		return text(pick(m, []string{"", "x", "y", "é"}))
	}
	x := el(pick(m, []string{"a", "b", "c"}))
	for _, name := range []string{"j", "k"} {
		if m.IntN(4) == 0 {
			x = with(x, name, pick(m, []string{"1", "2", ""}))
		}
	}
	return x
}

// forest is so many nodes, each put somewhere within those ahead or beside them.
func (m maker) forest(n int) []api.Tree { return m.doc(n).Forest() }

// doc is a document of so many nodes.
func (m maker) doc(n int) *tree.Doc {
	d := &tree.Doc{}
	for range n {
		m.put(d)
	}
	return d
}

// put puts one node in somewhere.
func (m maker) put(d *tree.Doc) {
	for try := 0; ; try++ {
		if _, e := d.Insert(1+m.IntN(4), m.live(d), m.node()); e == api.OK || try > 100 {
			return
		}
	}
}

// live is a node of a document, now and then 0.
func (m maker) live(d *tree.Doc) api.Handle {
	all, _ := d.All(0)
	if len(all) == 0 || m.IntN(8) == 0 {
		return 0
	}
	return pick(m, all)
}

// op is any edit of a document; it may be refused.
func (m maker) op(d *tree.Doc) api.Op {
	n := m.live(d)
	switch m.IntN(8) {
	case 0:
		return insert(1+m.IntN(4), n, m.node())
	case 1, 2, 3:
		return move(n, 1+m.IntN(4), m.live(d))
	case 4:
		return remove(n)
	case 5:
		return rename(n, pick(m, []string{"a", "b", "d"}))
	case 6:
		return retext(n, pick(m, []string{"", "x", "z"}))
	}
	if m.IntN(2) == 0 {
		return drop(n, pick(m, []string{"j", "k"}))
	}
	return attr(n, pick(m, []string{"j", "k", "l"}), pick(m, []string{"1", "3"}))
}

// edited is a copy of a document behind about so many edits.
func (m maker) edited(d *tree.Doc, n int) *tree.Doc {
	d = d.Clone()
	for range n {
		done(d, m.op(d))
	}
	return d
}

// gens is how often each of so many indexes was given.
func (m maker) gens(n int) []uint32 {
	l := make([]uint32, n)
	for i := range l {
		l[i] = uint32(1 + m.IntN(3))
	}
	return l
}

// image is any document of such indexes: which of them live, and how they lie in one another, hangs on nothing; not deeper than deep.
func (m maker) image(gens []uint32, deep int) api.Image {
	x := api.Image{Slots: make([]api.Slot, len(gens))}
	level := make([]int, len(gens))
	for _, i := range m.Perm(len(gens)) {
		x.Slots[i].Gen = gens[i]
		if m.IntN(8) == 0 {
			x.Slots[i].Gen = uint32(1 + m.IntN(3))
		}
		if m.IntN(6) == 0 {
			continue
		}
		n := m.node()
		s := &x.Slots[i]
		s.Live, s.Kind, s.Name, s.Attrs, s.Text = true, n.Kind, n.Name, n.Attrs, n.Text
		if n.Kind == api.Element {
			level[i] = 1
		}
		m.hang(x, level, i, deep)
	}
	x.Roots = roots(x)
	return x
}

// hang puts a slot that is new among those that are there; level is how deep elements lie.
func (m maker) hang(x api.Image, level []int, i, deep int) {
	j := m.IntN(len(level))
	if j == i || level[j] == 0 || level[j] >= deep {
		return
	}
	if level[i] > 0 {
		level[i] = level[j] + 1
	}
	x.Slots[i].Parent = hd(uint64(j+1), uint64(x.Slots[j].Gen))
	k := &x.Slots[j].Kids
	*k = slices.Insert(*k, m.IntN(len(*k)+1), hd(uint64(i+1), uint64(x.Slots[i].Gen)))
}

// roots is the live nodes of an image that lie in none.
func roots(x api.Image) []api.Handle {
	var l []api.Handle
	for i, s := range x.Slots {
		if s.Live && s.Parent == 0 {
			l = append(l, hd(uint64(i+1), uint64(s.Gen)))
		}
	}
	return l
}

// steps is a forest behind so many of P18.4's steps.
func (m maker) steps(f []api.Tree, n int) []api.Tree {
	f = copyForest(f)
	for range n {
		f = m.step(f)
	}
	return f
}

// step is a forest behind one step, of its roots or of what lies in one of them.
func (m maker) step(f []api.Tree) []api.Tree {
	if len(f) > 0 && m.IntN(3) > 0 {
		i := m.IntN(len(f))
		if f[i].Kind == api.Element && m.IntN(2) == 0 {
			f[i].Kids = m.step(f[i].Kids)
			return f
		}
		if m.IntN(2) == 0 {
			return slices.Replace(f, i, i+1, f[i].Kids...)
		}
		x := m.node()
		if x.Kind == api.Element || len(f[i].Kids) == 0 {
			x.Kids = f[i].Kids
			f[i] = x
		}
		return f
	}
	x := m.node()
	i := m.IntN(len(f) + 1)
	j := i
	if x.Kind == api.Element {
		j += m.IntN(len(f) + 1 - i)
		x.Kids = slices.Clone(f[i:j])
	}
	return slices.Replace(f, i, j, x)
}
