package tree_test

import (
	"cmp"
	"fmt"
	"math"
	"math/rand"
	"slices"
	"testing"

	"espalier/api"
	"espalier/chars"
	"espalier/tree"
)

// twig is a node of the model: the node without its children, what it lies in, what lies in it.
type twig struct {
	h    api.Handle
	x    api.Tree
	up   *twig
	kids []*twig
}

// forest is a document by the document's words, without an eye to how long it takes. The roots are the children of top.
type forest struct {
	top   *twig
	given []uint64 // how often each index was given; that of index 1 first
	live  map[api.Handle]*twig
	ever  []api.Handle
}

func newForest() *forest { return &forest{top: &twig{}, live: map[api.Handle]*twig{}} }

func (f *forest) worn() int {
	n := 0
	for i, g := range f.given {
		if f.live[hd(uint64(i+1), g)] == nil && g == math.MaxUint32 {
			n++
		}
	}
	return n
}

func (f *forest) give() api.Handle {
	for i, g := range f.given {
		if f.live[hd(uint64(i+1), g)] == nil && g < math.MaxUint32 {
			f.given[i]++
			return hd(uint64(i+1), g+1)
		}
	}
	f.given = append(f.given, 1)
	return hd(uint64(len(f.given)), 1)
}

func (f *forest) make(x api.Tree, up *twig) *twig {
	n := &twig{h: f.give(), up: up, x: api.Tree{Kind: x.Kind, Name: x.Name, Attrs: slices.Clone(x.Attrs), Text: x.Text}}
	f.live[n.h] = n
	f.ever = append(f.ever, n.h)
	for _, k := range x.Kids {
		n.kids = append(n.kids, f.make(k, n))
	}
	return n
}

func (n *twig) depth() int {
	if n.up == nil {
		return 0
	}
	return n.up.depth() + 1
}

func (n *twig) height() int {
	most := 0
	for _, k := range n.kids {
		most = max(most, k.height())
	}
	return most + 1
}

func (n *twig) all() []*twig {
	l := []*twig{n}
	for _, k := range n.kids {
		l = append(l, k.all()...)
	}
	return l
}

func (n *twig) plain() api.Tree {
	x := n.x
	x.Attrs = slices.Clone(x.Attrs)
	for _, k := range n.kids {
		x.Kids = append(x.Kids, k.plain())
	}
	return x
}

// size is how many nodes a tree of the test's own has (no text of them has children), and how high it is.
func size(x api.Tree) (int, int) {
	n, high := 1, 0
	for _, k := range x.Kids {
		m, h := size(k)
		n, high = n+m, max(high, h)
	}
	return n, high + 1
}

func (f *forest) out(n *twig) {
	n.up.kids = slices.DeleteFunc(slices.Clone(n.up.kids), func(k *twig) bool { return k == n })
}

// put lets n stand at a place; it stands nowhere yet.
func (f *forest) put(n *twig, where int, at *twig) {
	up := at
	var l []*twig
	switch where {
	case api.First:
		l = append([]*twig{n}, at.kids...)
	case api.Last:
		l = append(slices.Clone(at.kids), n)
	case api.Before, api.After:
		up = at.up
		for _, k := range up.kids {
			if k == at && where == api.Before {
				l = append(l, n)
			}
			l = append(l, k)
			if k == at && where == api.After {
				l = append(l, n)
			}
		}
	}
	n.up, up.kids = up, l
}

// at is a handle's node, top of 0, nil of none.
func (f *forest) at(h api.Handle) *twig {
	if h == 0 {
		return f.top
	}
	return f.live[h]
}

func wrongPlace(where int, at api.Handle) bool {
	beside := where == api.Before || where == api.After
	return !beside && where != api.First && where != api.Last || beside && at == 0
}

// fits is ErrInto and ErrDeep of a place that is one.
func (f *forest) fits(where int, at *twig, high int) api.Errno {
	under := at.depth()
	if where == api.Before || where == api.After {
		under--
	} else if at.x.Kind == api.Text {
		return api.ErrInto
	}
	if under+high > api.MaxDepth {
		return api.ErrDeep
	}
	return api.OK
}

func (f *forest) insert(where int, at api.Handle, x api.Tree) (api.Handle, api.Errno) {
	if wrongPlace(where, at) {
		return 0, api.ErrArg
	}
	if e := tree.Check(x); e != api.OK {
		return 0, e
	}
	p := f.at(at)
	if p == nil {
		return 0, api.ErrNode
	}
	n, high := size(x)
	if e := f.fits(where, p, high); e != api.OK {
		return 0, e
	}
	if len(f.live)+f.worn()+n > api.MaxNodes {
		return 0, api.ErrTooMany
	}
	t := f.make(x, nil)
	f.put(t, where, p)
	return t.h, api.OK
}

func (f *forest) move(h api.Handle, where int, at api.Handle) api.Errno {
	if wrongPlace(where, at) {
		return api.ErrArg
	}
	n, p := f.live[h], f.at(at)
	if n == nil || p == nil {
		return api.ErrNode
	}
	if slices.Contains(n.all(), p) {
		return api.ErrCycle
	}
	if e := f.fits(where, p, n.height()); e != api.OK {
		return e
	}
	f.out(n)
	f.put(n, where, p)
	return api.OK
}

func (f *forest) delete(h api.Handle) api.Errno {
	n := f.live[h]
	if n == nil {
		return api.ErrNode
	}
	f.out(n)
	for _, k := range n.all() {
		delete(f.live, k.h)
	}
	return api.OK
}

func (f *forest) setName(h api.Handle, name string) api.Errno {
	n := f.live[h]
	switch {
	case n == nil:
		return api.ErrNode
	case n.x.Kind == api.Text:
		return api.ErrKind
	case !chars.Name(name):
		return api.ErrName
	}
	n.x.Name = name
	return api.OK
}

func (f *forest) setText(h api.Handle, s string) api.Errno {
	n := f.live[h]
	_, e := chars.Text(s)
	switch {
	case n == nil:
		return api.ErrNode
	case n.x.Kind == api.Element:
		return api.ErrKind
	case e != api.OK:
		return e
	}
	n.x.Text = s
	return api.OK
}

func (f *forest) setAttr(h api.Handle, name, value string) api.Errno {
	n := f.live[h]
	_, e := chars.Text(value)
	switch {
	case n == nil:
		return api.ErrNode
	case n.x.Kind == api.Text:
		return api.ErrKind
	case !chars.Name(name):
		return api.ErrName
	case e != api.OK:
		return e
	}
	rest := slices.DeleteFunc(slices.Clone(n.x.Attrs), func(a api.Attr) bool { return a.Name == name })
	if len(rest) == api.MaxAttrs {
		return api.ErrLong
	}
	n.x.Attrs = append(rest, api.Attr{Name: name, Value: value})
	slices.SortFunc(n.x.Attrs, func(a, b api.Attr) int { return cmp.Compare(a.Name, b.Name) })
	return api.OK
}

func (f *forest) dropAttr(h api.Handle, name string) api.Errno {
	n := f.live[h]
	switch {
	case n == nil:
		return api.ErrNode
	case n.x.Kind == api.Text:
		return api.ErrKind
	}
	rest := slices.DeleteFunc(slices.Clone(n.x.Attrs), func(a api.Attr) bool { return a.Name == name })
	if len(rest) == len(n.x.Attrs) {
		return api.ErrNone
	}
	n.x.Attrs = rest
	return api.OK
}

func handles(l []*twig) []api.Handle {
	var out []api.Handle
	for _, n := range l {
		out = append(out, n.h)
	}
	return out
}

func (f *forest) image() api.Image {
	x := api.Image{Roots: handles(f.top.kids)}
	for i, g := range f.given {
		s := api.Slot{Gen: uint32(g)}
		if n := f.live[hd(uint64(i+1), g)]; n != nil {
			s = api.Slot{Gen: uint32(g), Live: true, Kind: n.x.Kind, Name: n.x.Name, Attrs: n.x.Attrs, Text: n.x.Text, Parent: n.up.h, Kids: handles(n.kids)}
		}
		x.Slots = append(x.Slots, s)
	}
	return x
}

// player makes one script of edits on a document and on the model.
type player struct {
	t    *testing.T
	r    *rand.Rand
	d    *tree.Doc
	f    *forest
	seen map[api.Errno]int
}

// handle is any that ever was, mostly one of a node.
func (p *player) handle() api.Handle {
	now := handles(p.f.top.all())
	switch k := p.r.Intn(20); {
	case k == 0:
		return api.Handle(p.r.Uint64())
	case k == 1:
		return hd(uint64(p.r.Intn(40)), uint64(p.r.Intn(5)))
	case k == 2 && len(p.f.ever) > 0:
		return p.f.ever[p.r.Intn(len(p.f.ever))]
	}
	return now[p.r.Intn(len(now))] // 0 too
}

// small is mostly the last node within a great one, in its place: if great ones went often, deep and full documents would not come up.
func (p *player) small(h api.Handle) api.Handle {
	n := p.f.live[h]
	if n == nil || len(n.kids) == 0 || p.r.Intn(10) == 0 {
		return h
	}
	l := n.all()
	return l[len(l)-1].h
}

func (p *player) name() string {
	return []string{"a", "b", "c", "a-b", "A", "1", "", "_"}[p.r.Intn(8)]
}

func (p *player) words() string {
	return []string{"", "t", "é", "\x00", "a b", "\xff"}[p.r.Intn(6)]
}

// tree is small, wrong now and then, high now and then.
func (p *player) tree(most int) api.Tree {
	switch k := p.r.Intn(12); {
	case k == 0 && p.r.Intn(4) == 0:
		return api.Tree{Kind: p.r.Intn(5)}
	case k == 1 && p.r.Intn(4) == 0:
		return el(p.name())
	case k == 2 && most == 3:
		return chain(1+p.r.Intn(50), text("deep"))
	case k < 5 || most == 0:
		return text("t")
	}
	x := el("e")
	x.Attrs = attrs(p.r.Intn(3))
	for range p.r.Intn(4) {
		x.Kids = append(x.Kids, p.tree(most-1))
	}
	return x
}

// edit makes one edit on both: its name, and what both answered.
func (p *player) edit() (what string, got, want string) {
	n, at, where := p.handle(), p.handle(), p.r.Intn(5)
	name, s := p.name(), p.words()
	one := func(what string, a, b api.Errno) (string, string, string) {
		p.seen[b]++
		return what, fmt.Sprint(int(a)), fmt.Sprint(int(b))
	}
	switch p.r.Intn(12) {
	case 0, 1, 2:
		x := p.tree(3)
		a, ae := p.d.Insert(where, at, x)
		b, be := p.f.insert(where, at, x)
		p.seen[be]++
		return fmt.Sprintf("Insert(%d, %x, %v)", where, at, x), fmt.Sprintf("%x %d", uint64(a), int(ae)), fmt.Sprintf("%x %d", uint64(b), int(be))
	case 3, 4, 5:
		return one(fmt.Sprintf("Move(%x, %d, %x)", n, where, at), p.d.Move(n, where, at), p.f.move(n, where, at))
	case 6, 7:
		n = p.small(n)
		return one(fmt.Sprintf("Delete(%x)", n), p.d.Delete(n), p.f.delete(n))
	case 8:
		return one(fmt.Sprintf("SetName(%x, %q)", n, name), p.d.SetName(n, name), p.f.setName(n, name))
	case 9:
		return one(fmt.Sprintf("SetText(%x, %q)", n, s), p.d.SetText(n, s), p.f.setText(n, s))
	case 10:
		return one(fmt.Sprintf("SetAttr(%x, %q, %q)", n, name, s), p.d.SetAttr(n, name, s), p.f.setAttr(n, name, s))
	}
	return one(fmt.Sprintf("DropAttr(%x, %q)", n, name), p.d.DropAttr(n, name), p.f.dropAttr(n, name))
}

// hold holds the whole document against the model.
func (p *player) hold(after string) {
	p.t.Helper()
	if got, want := p.d.Image(), p.f.image(); !same(got, want) {
		p.t.Fatalf("after %s: %v; want %v", after, got, want)
	}
}

// look holds all that the document tells, call by call, against the model.
func (p *player) look(after string) {
	p.t.Helper()
	d, f := p.d, p.f
	all, e := d.All(0)
	nodes := f.top.all()[1:]
	if !same(all, handles(nodes)) || e != api.OK || d.Len() != len(nodes) || !same(d.Roots(), handles(f.top.kids)) || !same(d.Forest(), f.top.plain().Kids) {
		p.t.Fatalf("after %s: %x; want %x", after, all, handles(nodes))
	}
	for _, n := range nodes {
		x, e1 := d.Get(n.h)
		sub, e2 := d.Subtree(n.h)
		up, e3 := d.Parent(n.h)
		kids, e4 := d.Kids(n.h)
		level, e5 := d.Level(n.h)
		within, e6 := d.All(n.h)
		if !same(x, n.x) || !same(sub, n.plain()) || up != n.up.h || !same(kids, handles(n.kids)) || level != n.depth()-1 || !same(within, handles(n.all())) || max(e1, e2, e3, e4, e5, e6) != api.OK {
			p.t.Fatalf("after %s: %x: %v, %v, %x, %x, %d, %x", after, n.h, x, sub, up, kids, level, within)
		}
	}
	// P3.7: what is no more is never live again.
	for _, h := range f.ever {
		if _, e := d.Get(h); (e == api.OK) != (f.live[h] != nil) {
			p.t.Fatalf("after %s: %x: %d", after, h, e)
		}
	}
	// P3.8: every node once, one deeper than its parent.
	once := map[api.Handle]int{}
	for _, h := range all {
		once[h]++
		up, _ := d.Parent(h)
		level, _ := d.Level(h)
		above, e := d.Level(up)
		if once[h] > 1 || up == 0 && level != 0 || up != 0 && (e != api.OK || level != above+1) {
			p.t.Fatalf("after %s: %x stands wrong", after, h)
		}
	}
}

// P3.2 to P3.5, P3.7, P3.8, P3.9: scripts of edits, held against the model at every step; now and then all is asked, and the document goes on as the one of its image, or as its clone.
func TestScripts(t *testing.T) {
	seen := map[api.Errno]int{}
	for seed := range 40 {
		p := &player{t: t, r: rand.New(rand.NewSource(int64(seed))), d: &tree.Doc{}, f: newForest(), seen: seen}
		if seed%2 == 0 {
			p.f.insert(api.Last, 0, chain(62, el("deep")))
			insert(t, p.d, api.Last, 0, chain(62, el("deep")))
		}
		for range 150 {
			what, got, want := p.edit()
			if got != want {
				t.Fatalf("seed %d: %s: %s; want %s", seed, what, got, want)
			}
			p.hold(what)
			switch p.r.Intn(12) {
			case 0:
				p.look(what)
				p.d = load(t, p.d.Image())
			case 1:
				p.look(what)
				p.d = p.d.Clone()
			case 2, 3:
				p.look(what)
			}
		}
	}
	for _, e := range []api.Errno{api.OK, api.ErrArg, api.ErrName, api.ErrText, api.ErrNode, api.ErrKind, api.ErrInto, api.ErrDeep, api.ErrCycle, api.ErrNone} {
		if seen[e] == 0 {
			t.Errorf("error %d did not come up", e)
		}
	}
}

// P3.2, P3.7: scripts on a document that has room for a dozen nodes, on indexes that are soon worn.
func TestTightScripts(t *testing.T) {
	seen := map[api.Errno]int{}
	for seed := range 6 {
		x := wornSlots(api.MaxNodes)
		r := rand.New(rand.NewSource(int64(seed)))
		for range 12 {
			x.Slots[r.Intn(20)].Gen -= uint32(r.Intn(12))
		}
		p := &player{t: t, r: r, d: load(t, x), f: newForest(), seen: seen}
		for _, s := range x.Slots {
			p.f.given = append(p.f.given, uint64(s.Gen))
		}
		for range 120 {
			what, got, want := p.edit()
			if got != want {
				t.Fatalf("seed %d: %s: %s; want %s", seed, what, got, want)
			}
			p.hold(what)
			if p.r.Intn(10) == 0 {
				p.look(what)
			}
		}
	}
	if seen[api.ErrTooMany] < 20 {
		t.Errorf("too many came up %d times", seen[api.ErrTooMany])
	}
}

// P3.9: a subtree reads as it was put in, and all else as it was.
func TestReadsAsItWas(t *testing.T) {
	r := rand.New(rand.NewSource(39))
	p := &player{t: t, r: r, seen: map[api.Errno]int{}}
	for range 300 {
		d := abc(t)
		x := p.tree(4)
		where, at := 1+r.Intn(4), []api.Handle{ha, hb, hc, hdd, he}[r.Intn(5)]
		was := d.Image()
		n, e := d.Insert(where, at, x)
		if e != api.OK {
			continue
		}
		if got, _ := d.Subtree(n); !same(got, x) {
			t.Fatalf("%v; want %v", got, x)
		}
		for i, s := range was.Slots {
			if got, _ := d.Get(hd(uint64(i+1), uint64(s.Gen))); got.Name != s.Name || got.Text != s.Text || !slices.Equal(got.Attrs, s.Attrs) {
				t.Fatalf("%v was %v", got, s)
			}
		}
		answers(t, "Delete", d.Delete(n), api.OK)
		now := d.Image()
		now.Slots = now.Slots[:len(was.Slots)]
		if !same(now, was) {
			t.Fatalf("%v; was %v", now, was)
		}
	}
}

// P3.9: moved away and back it is as it was.
func TestThereAndBack(t *testing.T) {
	for _, n := range []api.Handle{ha, hb, hc, ht, hdd, he} {
		for _, at := range []api.Handle{0, ha, hb, hc, ht, hdd, he} {
			for where := api.First; where <= api.After; where++ {
				d := abc(t)
				was := d.Image()
				back := wayBack(t, d, n)
				if d.Move(n, where, at) != api.OK {
					unchanged(t, d, was)
					continue
				}
				back()
				unchanged(t, d, was)
			}
		}
	}
}

// wayBack moves a node to where it stands now.
func wayBack(t *testing.T, d *tree.Doc, n api.Handle) func() {
	up, _ := d.Parent(n)
	list := d.Roots()
	if up != 0 {
		list, _ = d.Kids(up)
	}
	i := slices.Index(list, n)
	return func() {
		t.Helper()
		if i > 0 {
			answers(t, "back", d.Move(n, api.After, list[i-1]), api.OK)
			return
		}
		answers(t, "back", d.Move(n, api.First, up), api.OK)
	}
}
