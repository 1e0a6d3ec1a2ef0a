package label_test

import (
	"math"
	"math/rand"
	"slices"
	"testing"

	"espalier/api"
	"espalier/label"
	"espalier/tree"
)

// The chapter's first example.
func TestExample(t *testing.T) {
	var d label.Doc
	a := insert(t, &d, api.Last, 0, el("a", el("b")))
	b := hd(2, 1)
	sa, sb := span(t, &d, a), span(t, &d, b)
	if !(0 < sa.Begin && sa.Begin < sb.Begin && sb.Begin < sb.End && sb.End < sa.End) || sa.Level != 0 || sb.Level != 1 || d.Tags() != 4 {
		t.Error(sa, sb, d.Tags())
	}
	answers(t, "Move", d.Move(b, api.Last, 0), api.OK)
	sa, sb = span(t, &d, a), span(t, &d, b)
	if d.Tags() != 6 || sb.Level != 0 || sa.End >= sb.Begin {
		t.Error(sa, sb, d.Tags())
	}
	holds(t, &d)
}

func TestZero(t *testing.T) {
	var d label.Doc
	if l := d.Spans(); len(l) != 0 || d.Tags() != 0 || d.Writes() != 0 || d.Tree() == nil || d.Tree().Len() != 0 {
		t.Error(l, d.Tags(), d.Writes())
	}
	for _, n := range append(noNodes(), ha) {
		if s, e := d.Span(n); s != (api.Span{}) || e != api.ErrNode {
			t.Error(n, s, e)
		}
		answers(t, "Delete", d.Delete(n), api.ErrNode)
		answers(t, "Move", d.Move(n, api.Last, 0), api.ErrNode)
		answers(t, "SetName", d.SetName(n, "a"), api.ErrNode)
		answers(t, "SetText", d.SetText(n, "a"), api.ErrNode)
		answers(t, "SetAttr", d.SetAttr(n, "a", "b"), api.ErrNode)
		answers(t, "DropAttr", d.DropAttr(n, "a"), api.ErrNode)
	}
	for _, x := range []uint64{0, 1, 1 << 61, 1<<62 - 1, 1 << 62, math.MaxUint64} {
		if n, e := d.Find(x); n != 0 || e != api.ErrNode {
			t.Error(x, n, e)
		}
	}
	unchanged(t, &d, state{})
}

// P5.1: calls that are refused answer tree's error, the first that applies, and change nothing, neither spans nor what is counted.
func TestRefusedInserts(t *testing.T) {
	d := abc(t)
	deep := chain(63)
	for _, c := range []struct {
		where int
		at    api.Handle
		x     api.Tree
		want  api.Errno
	}{
		{0, 0, el("x"), api.ErrArg},
		{5, ha, el("x"), api.ErrArg},
		{-1, ha, el("-"), api.ErrArg},
		{api.Before, 0, el("x"), api.ErrArg},
		{api.After, 0, el("x"), api.ErrArg},
		{api.Last, ht, api.Tree{}, api.ErrArg},
		{api.Last, 1, el("-"), api.ErrName},
		{api.Last, ha, text("\x00"), api.ErrText},
		{api.Last, 0, text(long(api.MaxText + 1)), api.ErrLong},
		{api.Last, 0, chain(65), api.ErrLong},
		{api.Last, 0, wide(api.MaxNodes + 1), api.ErrLong},
		{api.First, ht, el("x"), api.ErrInto},
		{api.Last, ht, deep, api.ErrInto},
		{api.First, hb, deep, api.ErrDeep},
		{api.After, hc, deep, api.ErrDeep},
		{api.Last, 0, wide(api.MaxNodes - 5), api.ErrTooMany},
		{api.First, ha, wide(api.MaxNodes), api.ErrTooMany},
	} {
		was := stateOf(d)
		if n, e := d.Insert(c.where, c.at, c.x); n != 0 || e != c.want {
			t.Errorf("Insert(%d, %x, ..): %x, %d; want %d", c.where, c.at, n, e, c.want)
		}
		unchanged(t, d, was)
	}
	for _, at := range noNodes()[1:] {
		for where := api.First; where <= api.After; where++ {
			was := stateOf(d)
			if n, e := d.Insert(where, at, el("x")); n != 0 || e != api.ErrNode {
				t.Errorf("Insert(%d, %x, ..): %x, %d", where, at, n, e)
			}
			unchanged(t, d, was)
		}
	}
}

func TestRefusedMovesAndDeletes(t *testing.T) {
	d := abc(t)
	deep := insert(t, d, api.Last, 0, chain(62))
	was := stateOf(d)
	for _, c := range []struct {
		n     api.Handle
		where int
		at    api.Handle
		want  api.Errno
	}{
		{ha, 0, he, api.ErrArg},
		{1, 5, 1, api.ErrArg},
		{ha, api.Before, 0, api.ErrArg},
		{ha, api.After, 0, api.ErrArg},
		{ha, api.First, ha, api.ErrCycle},
		{ha, api.After, ha, api.ErrCycle},
		{ha, api.Last, ht, api.ErrCycle},
		{hb, api.Before, hc, api.ErrCycle},
		{ha, api.Last, 1, api.ErrNode},
		{he, api.First, ht, api.ErrInto},
		{deep, api.Last, hc, api.ErrDeep},
		{deep, api.Before, ht, api.OK},
	} {
		e := d.Move(c.n, c.where, c.at)
		answers(t, "Move", e, c.want)
		if e != api.OK {
			unchanged(t, d, was)
		}
	}
	holds(t, d)
	answers(t, "Delete", d.Delete(deep), api.OK)
	was = stateOf(d)
	for _, n := range noNodes() {
		for where := api.First; where <= api.After; where++ {
			answers(t, "Move", d.Move(n, where, he), api.ErrNode)
		}
		answers(t, "Delete", d.Delete(n), api.ErrNode)
		unchanged(t, d, was)
	}
}

// P5.1, P5.3: names, texts and attributes are set as tree's; labels and what is counted stay.
func TestSets(t *testing.T) {
	d := abc(t)
	was := stateOf(d)
	for _, n := range noNodes() {
		answers(t, "SetName", d.SetName(n, "-"), api.ErrNode)
		answers(t, "SetText", d.SetText(n, "\x00"), api.ErrNode)
		answers(t, "SetAttr", d.SetAttr(n, "-", ""), api.ErrNode)
		answers(t, "DropAttr", d.DropAttr(n, "k"), api.ErrNode)
	}
	answers(t, "SetName of a text", d.SetName(ht, "-"), api.ErrKind)
	answers(t, "SetName", d.SetName(ha, "-"), api.ErrName)
	answers(t, "SetText of an element", d.SetText(ha, "\x00"), api.ErrKind)
	answers(t, "SetText", d.SetText(ht, "\x00"), api.ErrText)
	answers(t, "SetText", d.SetText(ht, long(api.MaxText+1)), api.ErrLong)
	answers(t, "SetAttr of a text", d.SetAttr(ht, "-", ""), api.ErrKind)
	answers(t, "SetAttr", d.SetAttr(ha, "-", "\x00"), api.ErrName)
	answers(t, "SetAttr", d.SetAttr(ha, "k", "\x00"), api.ErrText)
	answers(t, "DropAttr of a text", d.DropAttr(ht, "k"), api.ErrKind)
	answers(t, "DropAttr", d.DropAttr(ha, "k"), api.ErrNone)
	unchanged(t, d, was)

	answers(t, "SetName", d.SetName(hb, "n"), api.OK)
	answers(t, "SetText", d.SetText(ht, "u"), api.OK)
	answers(t, "SetAttr", d.SetAttr(hc, "k", "v"), api.OK)
	answers(t, "SetAttr", d.SetAttr(hc, "l", "w"), api.OK)
	answers(t, "DropAttr", d.DropAttr(hc, "k"), api.OK)
	was.image.Slots[1].Name = "n"
	was.image.Slots[3].Text = "u"
	was.image.Slots[2].Attrs = []api.Attr{{Name: "l", Value: "w"}}
	unchanged(t, d, was)
}

// P5.3: two tags for each node of a subtree that is put in or moved, wherever to, and be it to where it stands; none for one that is taken away.
func TestTags(t *testing.T) {
	p := newPair(t)
	p.insert(api.Last, 0, el("a", el("b", el("c"), text("t")), el("d")))
	p.insert(api.Last, 0, el("e"))
	if p.d.Tags() != 12 {
		t.Error(p.d.Tags())
	}
	p.same()
	for _, c := range []struct {
		n     api.Handle
		where int
		at    api.Handle
		tags  uint64
	}{
		{hb, api.Last, he, 6},
		{hb, api.First, ha, 6},
		{hb, api.First, ha, 6},
		{hb, api.Before, hdd, 6},
		{hdd, api.Last, ha, 2},
		{ha, api.First, 0, 10},
		{ha, api.Last, he, 10},
		{ha, api.Last, he, 10},
		{ht, api.Last, 0, 2},
		{ht, api.Last, 0, 2},
		{ht, api.After, he, 2},
		{he, api.Last, 0, 10},
		{he, api.Before, ht, 10},
	} {
		was := p.d.Tags()
		answers(t, "Move", p.move(c.n, c.where, c.at), api.OK)
		if got := p.d.Tags() - was; got != c.tags {
			t.Errorf("Move(%x, %d, %x): %d tags; want %d", c.n, c.where, c.at, got, c.tags)
		}
		p.same()
		holds(t, p.d)
	}
	answers(t, "Delete", p.delete(hb), api.OK)
	answers(t, "Delete", p.delete(hb), api.ErrNode)
	p.same()
	holds(t, p.d)
	if _, e := p.d.Span(hc); e != api.ErrNode {
		t.Error(e)
	}
	answers(t, "Delete", p.delete(he), api.OK)
	answers(t, "Delete", p.delete(ht), api.OK)
	p.same()
	if len(p.d.Spans()) != 0 {
		t.Error(p.d.Spans())
	}
}

// P5.2, P5.3: what is taken away keeps nothing: others stay as they are, label by label, and neither tags nor writes are counted.
func TestDelete(t *testing.T) {
	d := abc(t)
	was := stateOf(d)
	b := span(t, d, hb)
	answers(t, "Delete", d.Delete(hb), api.OK)
	left := slices.DeleteFunc(slices.Clone(was.spans), func(p api.Placed) bool { return p.Node == hb || p.Node == hc || p.Node == ht })
	if l := d.Spans(); !slices.Equal(l, left) || d.Tags() != was.tags || d.Writes() != was.writes {
		t.Error(l, left, d.Tags(), d.Writes())
	}
	if n, e := d.Find(b.Begin); n != 0 || e != api.ErrNode {
		t.Error(n, e)
	}
	// Its index is given again; the old handle is no node's.
	n := insert(t, d, api.First, hdd, text("new"))
	if n != hd(2, 2) {
		t.Errorf("%x", n)
	}
	if s, e := d.Span(hb); s != (api.Span{}) || e != api.ErrNode {
		t.Error(s, e)
	}
	holds(t, d)
}

// Every place, by every node, in a small document: as tree has it, with spans that hold.
func TestEveryPlace(t *testing.T) {
	handles := []api.Handle{0, ha, hb, hc, ht, hdd, he, 1}
	for where := 0; where <= 5; where++ {
		for _, at := range handles {
			for _, x := range []api.Tree{text("new"), el("x", el("y"), text("z"))} {
				p := &pair{t: t, d: abc(t), tree: abc(t).Tree(), tags: 12}
				p.insert(where, at, x)
				p.same()
				holds(t, p.d)
			}
			for _, n := range handles {
				p := &pair{t: t, d: abc(t), tree: abc(t).Tree(), tags: 12}
				p.move(n, where, at)
				p.same()
				holds(t, p.d)
			}
		}
	}
}

// tangled is an image with dead slots, worn ones, and nodes whose indexes do not follow document order.
func tangled() api.Image {
	return api.Image{
		Slots: []api.Slot{
			{Gen: 7, Live: true, Kind: api.Text, Text: "t", Parent: hd(5, 3)},
			{Gen: 2},
			{Gen: math.MaxUint32},
			{Gen: 1, Live: true, Kind: api.Element, Name: "r", Attrs: []api.Attr{{Name: "k", Value: "v"}}, Kids: []api.Handle{hd(5, 3)}},
			{Gen: 3, Live: true, Kind: api.Element, Name: "m", Parent: hd(4, 1), Kids: []api.Handle{hd(6, 1), hd(1, 7)}},
			{Gen: 1, Live: true, Kind: api.Text, Parent: hd(5, 3)},
			{Gen: math.MaxUint32, Live: true, Kind: api.Element, Name: "s"},
		},
		Roots: []api.Handle{hd(7, math.MaxUint32), hd(4, 1)},
	}
}

func TestLoad(t *testing.T) {
	x := tangled()
	d := load(t, x)
	if d.Tags() != 10 {
		t.Error(d.Tags())
	}
	holds(t, d)
	var order []api.Handle
	for _, p := range d.Spans() {
		order = append(order, p.Node)
	}
	if want := []api.Handle{hd(7, math.MaxUint32), hd(4, 1), hd(5, 3), hd(6, 1), hd(1, 7)}; !slices.Equal(order, want) {
		t.Errorf("%x; want %x", order, want)
	}
	if !sameImage(d.Tree().Image(), tangled()) || !sameImage(x, tangled()) {
		t.Error("another image")
	}

	// It goes on as tree's does.
	nodes, _ := tree.Load(x)
	p := &pair{t: t, d: d, tree: nodes, tags: 10}
	p.insert(api.First, hd(5, 3), el("n", el("o")))
	p.move(hd(4, 1), api.First, hd(7, math.MaxUint32))
	p.delete(hd(7, math.MaxUint32))
	p.insert(api.Last, 0, wide(api.MaxNodes))
	p.insert(api.Last, 0, wide(api.MaxNodes-2))
	p.same()
	holds(t, d)

	// None, and all that there can be.
	if d := load(t, api.Image{}); d.Tags() != 0 || d.Writes() != 0 || len(d.Spans()) != 0 {
		t.Error(d.Spans())
	}
	var full tree.Doc
	full.Insert(api.Last, 0, wide(api.MaxNodes-64))
	full.Insert(api.Last, 0, chain(64))
	d = load(t, full.Image())
	if d.Tags() != api.MaxTags {
		t.Error(d.Tags())
	}
	holds(t, d)
}

func TestLoadRefused(t *testing.T) {
	for i, spoil := range []func(x *api.Image){
		func(x *api.Image) { x.Slots[1].Gen = 0 },
		func(x *api.Image) { x.Slots[0].Text = "\x00" },
		func(x *api.Image) { x.Slots[3].Name = "-" },
		func(x *api.Image) { x.Slots[4].Parent = 0 },
		func(x *api.Image) { x.Roots = x.Roots[:1] },
		func(x *api.Image) { x.Roots = append(x.Roots, x.Roots[0]) },
		func(x *api.Image) { x.Roots[0] = hd(2, 2) },
		func(x *api.Image) { x.Slots[4].Kids[1] = hd(6, 1) },
		func(x *api.Image) { x.Slots = append(x.Slots, make([]api.Slot, api.MaxNodes)...) },
		func(x *api.Image) { // a ring, reached from nowhere
			x.Slots[3].Parent, x.Slots[4].Kids = hd(5, 3), append(x.Slots[4].Kids, hd(4, 1))
			x.Roots = x.Roots[:1]
		},
	} {
		x := tangled()
		spoil(&x)
		if d, e := label.Load(x); d != nil || e != api.ErrImage {
			t.Errorf("image %d: %v, %d", i, d, e)
		}
	}
}

// What is handed in is neither changed nor kept; what is answered is no part of the document.
func TestMemory(t *testing.T) {
	x := tangled()
	d := load(t, x)
	was := stateOf(d)
	x.Roots[0] = 1
	for i := range x.Slots {
		for j := range x.Slots[i].Kids {
			x.Slots[i].Kids[j] = 1
		}
		for j := range x.Slots[i].Attrs {
			x.Slots[i].Attrs[j] = api.Attr{}
		}
		x.Slots[i] = api.Slot{}
	}
	unchanged(t, d, was)

	y := el("y", el("z"))
	y.Attrs = []api.Attr{{Name: "k", Value: "v"}}
	insert(t, d, api.Last, 0, y)
	was = stateOf(d)
	y.Attrs[0].Name = "other"
	y.Kids[0].Name = "other"
	unchanged(t, d, was)

	l := d.Spans()
	m := d.Spans()
	clear(l[:cap(l)])
	if !slices.Equal(m, was.spans) {
		t.Error("two answers share memory")
	}
	unchanged(t, d, was)
}

// P5.1: what Tree answers and the document know nothing of one another.
func TestTreeApart(t *testing.T) {
	d := abc(t)
	was := stateOf(d)
	nodes := d.Tree()
	image := nodes.Image()
	nodes.Delete(hb)
	nodes.Insert(api.First, 0, el("x"))
	nodes.SetName(ha, "y")
	nodes.Move(he, api.First, ha)
	unchanged(t, d, was)

	other := d.Tree()
	d.Delete(hb)
	insert(t, d, api.First, 0, el("x"))
	d.SetName(ha, "y")
	d.Move(he, api.First, ha)
	if !sameImage(other.Image(), image) {
		t.Error("changed with the document")
	}
	// The handles of both go on in the same way.
	if a, _ := d.Tree().Insert(api.Last, 0, el("n")); a != insert(t, d, api.Last, 0, el("n")) {
		t.Errorf("%x", a)
	}
}

func TestTwoDocs(t *testing.T) {
	a, b := abc(t), abc(t)
	if !slices.Equal(a.Spans(), b.Spans()) || a.Writes() != b.Writes() {
		t.Error("the same calls, other answers")
	}
	was := stateOf(b)
	for range 200 {
		insert(t, a, api.First, ha, text(""))
	}
	a.Delete(ha)
	unchanged(t, b, was)
}

// words is random arguments, sound and not.
type words struct{ *rand.Rand }

func (r words) handle(d *tree.Doc) api.Handle {
	all, _ := d.All(0)
	switch k := r.Intn(10); {
	case k == 0:
		return 0
	case k == 1:
		return hd(uint64(r.Intn(80)), uint64(r.Intn(6)))
	case len(all) > 0:
		return all[r.Intn(len(all))]
	}
	return api.Handle(r.Uint64())
}

func (r words) tree(deep int) api.Tree {
	if r.Intn(3) == 0 {
		return text([]string{"", "t", "\x00"}[r.Intn(20)/9])
	}
	x := el([]string{"a", "b", ""}[r.Intn(20)/9])
	for range r.Intn(4) {
		if deep > 0 {
			x.Kids = append(x.Kids, r.tree(deep-1))
		}
	}
	return x
}

// P5.1: whatever is asked for, every answer is what tree's would be.
func TestAsTree(t *testing.T) {
	for seed := range int64(30) {
		r := words{rand.New(rand.NewSource(seed))}
		p := newPair(t)
		for range 400 {
			n, at := r.handle(p.tree), r.handle(p.tree)
			name, value := []string{"a", "b", "-"}[r.Intn(3)], []string{"", "v", "\x00"}[r.Intn(3)]
			switch k := r.Intn(20); {
			case k < 6:
				p.insert(r.Intn(6), at, r.tree(3))
			case k < 12:
				p.move(n, r.Intn(6), at)
			case k < 14:
				p.delete(n)
			case k < 15:
				answers(t, "SetName", p.d.SetName(n, name), p.tree.SetName(n, name))
			case k < 16:
				answers(t, "SetText", p.d.SetText(n, value), p.tree.SetText(n, value))
			case k < 18:
				answers(t, "SetAttr", p.d.SetAttr(n, name, value), p.tree.SetAttr(n, name, value))
			case k < 19:
				answers(t, "DropAttr", p.d.DropAttr(n, name), p.tree.DropAttr(n, name))
			case p.tree.Len() > 60:
				p.delete(p.tree.Roots()[0])
			}
			p.same()
			holds(t, p.d)
		}
	}
}
