package tree_test

import (
	"math"
	"math/rand"
	"slices"
	"testing"

	"espalier/api"
	"espalier/tree"
)

// P3.6: an image by the document's words.
func TestImage(t *testing.T) {
	d := abc(t)
	answers(t, "Delete", d.Delete(hdd), api.OK)
	answers(t, "Delete", d.Delete(he), api.OK)
	n := insert(t, d, api.First, 0, text("u"))
	answers(t, "Move", d.Move(ht, api.First, hb), api.OK)
	want := api.Image{
		Slots: []api.Slot{
			{Gen: 1, Live: true, Kind: api.Element, Name: "a", Attrs: []api.Attr{{Name: "k", Value: "v"}}, Kids: []api.Handle{hb}},
			{Gen: 1, Live: true, Kind: api.Element, Name: "b", Parent: ha, Kids: []api.Handle{ht, hc}},
			{Gen: 1, Live: true, Kind: api.Element, Name: "c", Parent: hb},
			{Gen: 1, Live: true, Kind: api.Text, Text: "t", Parent: hb},
			{Gen: 2, Live: true, Kind: api.Text, Text: "u"},
			{Gen: 1},
		},
		Roots: []api.Handle{hd(5, 2), ha},
	}
	if got := d.Image(); n != hd(5, 2) || !same(got, want) {
		t.Errorf("%v; want %v", got, want)
	}
	answers(t, "Delete", d.Delete(ha), api.OK)
	want = api.Image{Slots: []api.Slot{{Gen: 1}, {Gen: 1}, {Gen: 1}, {Gen: 1}, want.Slots[4], {Gen: 1}}, Roots: want.Roots[:1]}
	if got := d.Image(); !same(got, want) {
		t.Errorf("%v; want %v", got, want)
	}
}

// P3.6: in dead slots, and in what a kind does not use, anything may stand; it is not there afterwards.
func TestLoadJunk(t *testing.T) {
	d := abc(t)
	answers(t, "Delete", d.Delete(hdd), api.OK)
	want := d.Image()
	x := d.Image()
	x.Slots[4] = api.Slot{Gen: 1, Kind: bad, Name: "1", Attrs: attrs(40), Text: "\x00", Parent: 77, Kids: []api.Handle{ha, 77}}
	x.Slots[0].Text = "\x00"
	x.Slots[1].Text = long(api.MaxText + 1)
	x.Slots[3].Name = "1"
	x.Slots[3].Attrs = attrs(40)
	x.Slots[3].Kids = []api.Handle{ha, 77, ht}
	l := load(t, x)
	unchanged(t, l, want)
	if !same(l.Forest(), d.Forest()) || l.Len() != 5 {
		t.Errorf("%v", l.Forest())
	}
	if got, _ := l.Kids(ht); len(got) != 0 {
		t.Errorf("a text's children: %x", got)
	}
	if n := insert(t, l, api.Last, ha, el("d")); n != hd(5, 2) {
		t.Errorf("%x", n)
	}
	// A dead slot is as junk even if it looks like a node.
	x = want
	x.Slots = append(x.Slots, api.Slot{Gen: 3, Kind: api.Element, Name: "z"})
	l = load(t, x)
	noNode(t, l, hd(7, 3))
}

// noImage: Load refuses, and changes nothing.
func noImage(t *testing.T, what string, x api.Image) {
	t.Helper()
	was := copyImage(x)
	if d, e := tree.Load(x); d != nil || e != api.ErrImage {
		t.Errorf("%s: %v, %d", what, d, e)
	}
	if !same(x, was) {
		t.Errorf("%s: changed", what)
	}
}

// P3.6: what is no document's image.
func TestLoadErrors(t *testing.T) {
	for what, spoilt := range map[string]func(x *api.Image){
		"a generation 0":            func(x *api.Image) { x.Slots[5].Gen = 0 },
		"a generation 0 of a dead":  func(x *api.Image) { x.Slots[6].Gen = 0 },
		"a kind that is none":       func(x *api.Image) { x.Slots[3].Kind = 0 },
		"another kind":              func(x *api.Image) { x.Slots[3].Kind = 3 },
		"an element as a text":      func(x *api.Image) { x.Slots[0].Kind = api.Text },
		"a leaf's name":             func(x *api.Image) { x.Slots[2].Name = "" },
		"attributes that fall":      func(x *api.Image) { x.Slots[0].Attrs = []api.Attr{{Name: "l"}, {Name: "k"}} },
		"too many attributes":       func(x *api.Image) { x.Slots[0].Attrs = attrs(api.MaxAttrs + 1) },
		"a wrong value":             func(x *api.Image) { x.Slots[0].Attrs[0].Value = "\x00" },
		"a wrong text":              func(x *api.Image) { x.Slots[3].Text = "\x00" },
		"a long text":               func(x *api.Image) { x.Slots[3].Text = long(api.MaxText + 1) },
		"a root of no slot":         func(x *api.Image) { x.Roots = append(x.Roots, hd(8, 1)) },
		"a root 0":                  func(x *api.Image) { x.Roots = append(x.Roots, 0) },
		"a root of an index 0":      func(x *api.Image) { x.Roots = append(x.Roots, hd(0, 1)) },
		"a dead root":               func(x *api.Image) { x.Roots = append(x.Roots, hd(7, 1)) },
		"a root's other generation": func(x *api.Image) { x.Roots[1] = hd(6, 2) },
		"a root twice":              func(x *api.Image) { x.Roots = append(x.Roots, ha) },
		"a root that is a child":    func(x *api.Image) { x.Roots = append(x.Roots, hb) },
		"a root too few":            func(x *api.Image) { x.Roots = x.Roots[:1] },
		"no roots":                  func(x *api.Image) { x.Roots = nil },
		"a child twice":             func(x *api.Image) { x.Slots[1].Kids = []api.Handle{hc, ht, hc} },
		"a child of two":            func(x *api.Image) { x.Slots[4].Kids = []api.Handle{hc} },
		"a child of another one":    func(x *api.Image) { x.Slots[1].Kids, x.Slots[4].Kids = []api.Handle{ht}, []api.Handle{hc} },
		"a child of none":           func(x *api.Image) { x.Slots[1].Kids = []api.Handle{hc} },
		"a child 0":                 func(x *api.Image) { x.Slots[1].Kids = []api.Handle{hc, ht, 0} },
		"a dead child":              func(x *api.Image) { x.Slots[1].Kids = []api.Handle{hc, ht, hd(7, 1)} },
		"a child of no slot":        func(x *api.Image) { x.Slots[1].Kids = []api.Handle{hc, ht, hd(8, 1)} },
		"a child's generation":      func(x *api.Image) { x.Slots[1].Kids = []api.Handle{hc, hd(4, 2)} },
		"a parent 0":                func(x *api.Image) { x.Slots[1].Parent = 0 },
		"a root's parent":           func(x *api.Image) { x.Slots[5].Parent = ha },
		"a parent's generation":     func(x *api.Image) { x.Slots[2].Parent = hd(2, 2) },
		"a text as parent":          func(x *api.Image) { x.Slots[2].Parent = ht },
		"a child of a text": func(x *api.Image) {
			x.Slots[1].Kids, x.Slots[3].Kids, x.Slots[2].Parent = []api.Handle{ht}, []api.Handle{hc}, ht
		},
		"a dead one that stands":  func(x *api.Image) { x.Slots[2].Live = false },
		"one that came to life":   func(x *api.Image) { x.Slots[6].Live = true },
		"one that stands nowhere": func(x *api.Image) { x.Slots[6] = api.Slot{Gen: 1, Live: true, Kind: api.Text} },
		"a node in itself": func(x *api.Image) {
			x.Slots[6] = api.Slot{Gen: 1, Live: true, Kind: api.Element, Name: "z", Parent: hd(7, 1), Kids: []api.Handle{hd(7, 1)}}
		},
		"a round that is nowhere":    func(x *api.Image) { x.Roots, x.Slots[0].Parent, x.Slots[4].Kids = x.Roots[1:], hdd, []api.Handle{ha} },
		"a root in its own children": func(x *api.Image) { x.Slots[4].Kids = []api.Handle{ha} },
	} {
		x := abc(t).Image()
		x.Slots = append(x.Slots, api.Slot{Gen: 1})
		load(t, x)
		spoilt(&x)
		noImage(t, what, x)
	}
}

// P3.6: the limits of an image.
func TestLoadLimits(t *testing.T) {
	load(t, wornSlots(api.MaxNodes))
	noImage(t, "a slot too many", wornSlots(api.MaxNodes+1))
	var d tree.Doc
	insert(t, &d, api.Last, 0, wide(api.MaxNodes))
	x := d.Image()
	if l := load(t, x); !same(l.Forest(), d.Forest()) {
		t.Error("another forest")
	}
	x.Slots = append(x.Slots, api.Slot{Gen: 1})
	noImage(t, "a dead slot too many", x)

	for _, inner := range []api.Tree{el("x"), text("x")} {
		var e tree.Doc
		top := insert(t, &e, api.Last, 0, chain(api.MaxDepth, inner))
		x = e.Image()
		unchanged(t, load(t, x), x)
		// One more around all.
		over := hd(api.MaxDepth+1, 1)
		x.Slots = append(x.Slots, api.Slot{Gen: 1, Live: true, Kind: api.Element, Name: "o", Kids: []api.Handle{top}})
		x.Slots[0].Parent = over
		x.Roots = []api.Handle{over}
		noImage(t, "one deeper", x)
	}
	first := api.Image{Slots: []api.Slot{{Gen: math.MaxUint32, Live: true, Kind: api.Text}}, Roots: []api.Handle{hd(1, math.MaxUint32)}}
	unchanged(t, load(t, first), first)
	unchanged(t, load(t, api.Image{}), api.Image{})
	noImage(t, "a long list", api.Image{Roots: make([]api.Handle, 1<<20)})
}

// isImage is the document's words, one by one.
func isImage(x api.Image) bool {
	if len(x.Slots) > api.MaxNodes {
		return false
	}
	live := map[api.Handle]api.Slot{}
	for i, s := range x.Slots {
		if s.Gen == 0 {
			return false
		}
		if !s.Live {
			continue
		}
		if tree.Check(api.Tree{Kind: s.Kind, Name: s.Name, Attrs: s.Attrs, Text: s.Text}) != api.OK {
			return false
		}
		live[hd(uint64(i+1), uint64(s.Gen))] = s
	}
	lists := map[api.Handle][]api.Handle{0: x.Roots}
	for h, s := range live {
		if s.Kind == api.Element {
			lists[h] = s.Kids
		}
	}
	stands := map[api.Handle][]api.Handle{}
	for owner, l := range lists {
		for _, h := range l {
			if _, ok := live[h]; !ok {
				return false
			}
			stands[h] = append(stands[h], owner)
		}
	}
	for h, s := range live {
		if !slices.Equal(stands[h], []api.Handle{s.Parent}) || !comesUp(live, h) {
			return false
		}
	}
	return true
}

// comesUp: from a node up, parent by parent, a root comes within MaxDepth.
func comesUp(live map[api.Handle]api.Slot, h api.Handle) bool {
	for range api.MaxDepth {
		h = live[h].Parent
		if h == 0 {
			return true
		}
	}
	return false
}

// randomHandle is one of the image, mostly.
func randomHandle(r *rand.Rand, x api.Image) api.Handle {
	switch r.Intn(8) {
	case 0:
		return 0
	case 1:
		return api.Handle(r.Uint64())
	}
	i := r.Intn(len(x.Slots))
	return hd(uint64(i+1), uint64(x.Slots[i].Gen))
}

// turn makes one change in an image, which may leave it one.
func turn(r *rand.Rand, x *api.Image) {
	s := &x.Slots[r.Intn(len(x.Slots))]
	list := &s.Kids
	if r.Intn(4) == 0 {
		list = &x.Roots
	}
	switch r.Intn(9) {
	case 0:
		s.Live = !s.Live
	case 1:
		s.Gen = uint32(r.Intn(4))
	case 2:
		s.Parent = randomHandle(r, *x)
	case 3:
		*list = append(*list, randomHandle(r, *x))
	case 4:
		if len(*list) > 0 {
			*list = (*list)[1:]
		}
	case 5:
		if len(*list) > 0 {
			(*list)[r.Intn(len(*list))] = randomHandle(r, *x)
		}
	case 6:
		s.Kind = r.Intn(4)
	case 7:
		s.Text, s.Name = []string{"", "t", "\x00"}[r.Intn(3)], []string{"", "n", "1"}[r.Intn(3)]
	case 8:
		move(r, x)
	}
}

// move takes a node out of its parent's list and puts it into another one, with or without an eye to what lies where.
func move(r *rand.Rand, x *api.Image) {
	h, to := randomHandle(r, *x), randomHandle(r, *x)
	drop := func(l []api.Handle) []api.Handle {
		return slices.DeleteFunc(l, func(k api.Handle) bool { return k == h })
	}
	x.Roots = drop(x.Roots)
	for i := range x.Slots {
		s := &x.Slots[i]
		s.Kids = drop(s.Kids)
		if hd(uint64(i+1), uint64(s.Gen)) == h {
			s.Parent = to
		}
		if hd(uint64(i+1), uint64(s.Gen)) == to {
			s.Kids = append(s.Kids, h)
		}
	}
	if to == 0 {
		x.Roots = append(x.Roots, h)
	}
}

// P3.6: images with some changes, held against the document's words; those that are some document's come back.
func TestLoadTurned(t *testing.T) {
	r := rand.New(rand.NewSource(36))
	good := 0
	for range 20000 {
		d := abc(t)
		insert(t, d, api.Last, hc, el("z", text("z")))
		d.Delete(hdd)
		x := d.Image()
		for range r.Intn(4) {
			turn(r, &x)
		}
		l, e := tree.Load(x)
		if ok := isImage(x); ok != (e == api.OK) || ok != (l != nil) || !ok && e != api.ErrImage {
			t.Fatalf("%v: %d; want %v", x, e, ok)
		}
		if l == nil {
			continue
		}
		good++
		y := l.Image()
		if !isImage(y) || len(y.Slots) != len(x.Slots) || !slices.Equal(y.Roots, x.Roots) {
			t.Fatalf("%v became %v", x, y)
		}
		for i, s := range y.Slots {
			if s.Gen != x.Slots[i].Gen || s.Live != x.Slots[i].Live || s.Live && s.Kind != x.Slots[i].Kind {
				t.Fatalf("%v became %v", x, y)
			}
		}
	}
	if good < 2000 || good > 18000 {
		t.Errorf("%d of them are images: too few, or too many", good)
	}
}

// P3.6: neither of a document and its clone knows of the other one.
func TestClone(t *testing.T) {
	d := abc(t)
	was := d.Image()
	c := d.Clone()
	unchanged(t, c, was)
	if c.Len() != 6 {
		t.Errorf("%d nodes", c.Len())
	}
	change := func(x *tree.Doc) {
		answers(t, "SetAttr", x.SetAttr(ha, "k", "w"), api.OK)
		answers(t, "SetAttr", x.SetAttr(ha, "l", "w"), api.OK)
		answers(t, "SetName", x.SetName(hb, "w"), api.OK)
		answers(t, "SetText", x.SetText(ht, "w"), api.OK)
		answers(t, "Move", x.Move(hdd, api.First, ha), api.OK)
		answers(t, "Move", x.Move(he, api.First, 0), api.OK)
		answers(t, "Delete", x.Delete(hc), api.OK)
		insert(t, x, api.Last, ha, el("w"))
		insert(t, x, api.Last, 0, el("w"))
	}
	change(c)
	unchanged(t, d, was)
	now := c.Image()
	change(d)
	unchanged(t, c, now)
	unchanged(t, d, now)
	if c.Len() != 7 || d.Len() != 7 {
		t.Errorf("%d, %d nodes", c.Len(), d.Len())
	}
}
