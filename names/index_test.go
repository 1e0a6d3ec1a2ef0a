package names_test

import (
	"math"
	"slices"
	"testing"

	"espalier/api"
	"espalier/label"
	"espalier/names"
)

// The chapter's first example.
func TestExample(t *testing.T) {
	x := newIndex(t, api.Image{})
	a := insert(t, x, api.Last, 0, el("a", el("b"), text("x"), with(el("b"), "k", "1")))
	first, second := hd(2, 1), hd(4, 1)
	tells(t, "Named(b)", x.Named("b"), first, second)
	tells(t, "Having(k)", x.Having("k"), second)
	tells(t, "Valued(k, 1)", x.Valued("k", "1"), second)
	if l := x.Names(); !slices.Equal(l, []api.Named{{Name: "a", N: 1}, {Name: "b", N: 2}}) {
		t.Error(l)
	}
	if n, e := x.Rank("b", second); n != 1 || e != api.OK {
		t.Error(n, e)
	}
	if n, ok, e := x.Next("b", a); n != first || !ok || e != api.OK {
		t.Error(n, ok, e)
	}
	holds(t, x)
}

// P8.1: New answers label.Load's error.
func TestNewRefused(t *testing.T) {
	live := api.Slot{Gen: 1, Live: true, Kind: api.Element, Name: "a"}
	for _, x := range []api.Image{
		{Slots: []api.Slot{{}}},
		{Slots: []api.Slot{live}},
		{Roots: []api.Handle{hd(1, 1)}},
		{Slots: []api.Slot{live}, Roots: []api.Handle{hd(1, 2)}},
		{Slots: []api.Slot{live}, Roots: []api.Handle{hd(1, 1), hd(1, 1)}},
		{Slots: []api.Slot{{Gen: 1, Live: true, Kind: api.Element, Name: "-"}}, Roots: []api.Handle{hd(1, 1)}},
		{Slots: make([]api.Slot, api.MaxNodes+1)},
	} {
		if i, e := names.New(x); i != nil || e != api.ErrImage {
			t.Errorf("New: %v, %d", i, e)
		}
	}
}

// P8.1: of any image that can be: of none, of one whose slots are worn or dead, of one that has all that there can be.
func TestNew(t *testing.T) {
	x := newIndex(t, api.Image{})
	holds(t, x)
	if l := x.Names(); len(l) != 0 || len(x.Texts()) != 0 || x.Doc().Tree().Len() != 0 {
		t.Error(l, x.Texts())
	}

	image := api.Image{Slots: []api.Slot{
		{Gen: math.MaxUint32, Name: "nothing stands in a dead slot", Kids: []api.Handle{1}},
		{Gen: 7, Live: true, Kind: api.Text, Text: "t", Name: "nobody", Attrs: []api.Attr{{Name: "nobody"}}, Parent: hd(3, 9)},
		{Gen: 9, Live: true, Kind: api.Element, Name: "a", Text: "no text", Attrs: []api.Attr{{Name: "k", Value: "v"}}, Kids: []api.Handle{hd(4, 1), hd(2, 7)}},
		{Gen: 1, Live: true, Kind: api.Element, Name: "b", Parent: hd(3, 9)},
	}, Roots: []api.Handle{hd(3, 9)}}
	x = newIndex(t, image)
	holds(t, x)
	tells(t, "Texts", x.Texts(), hd(2, 7))
	tells(t, "Having(k)", x.Having("k"), hd(3, 9))
	tells(t, "Having(nobody)", x.Having("nobody"))
	// The worn index is not given again.
	if n := insert(t, x, api.First, 0, el("c")); n != hd(5, 1) {
		t.Errorf("%x", n)
	}
	holds(t, x)
}

// P8.1: the document that Doc answers is the same at each call, and is seen as it is.
func TestDoc(t *testing.T) {
	x := abc(t)
	d := x.Doc()
	if d == nil || d != x.Doc() {
		t.Error("another document")
	}
	n := insert(t, x, api.First, 0, el("n"))
	answers(t, "SetAttr", x.SetAttr(n, "k", "v"), api.OK)
	if d != x.Doc() || d.Spans()[0].Node != n {
		t.Error(d.Spans())
	}
	if y, e := d.Tree().Get(n); e != api.OK || y.Name != "n" || !slices.Equal(y.Attrs, []api.Attr{{Name: "k", Value: "v"}}) {
		t.Error(y, e)
	}
	answers(t, "Delete", x.Delete(n), api.OK)
	if _, e := d.Span(n); d != x.Doc() || e != api.ErrNode {
		t.Error(e)
	}
}

// refusal is a call that is refused.
type refusal struct {
	what string
	do   func(x *names.Index) api.Errno
	want api.Errno
}

func putting(where int, at api.Handle, y api.Tree, want api.Errno) refusal {
	return refusal{"Insert", func(x *names.Index) api.Errno {
		n, e := x.Insert(where, at, y)
		if n != 0 {
			return -1
		}
		return e
	}, want}
}

func moving(n api.Handle, where int, at api.Handle, want api.Errno) refusal {
	return refusal{"Move", func(x *names.Index) api.Errno { return x.Move(n, where, at) }, want}
}

func naming(n api.Handle, name string, want api.Errno) refusal {
	return refusal{"SetName", func(x *names.Index) api.Errno { return x.SetName(n, name) }, want}
}

func wording(n api.Handle, text string, want api.Errno) refusal {
	return refusal{"SetText", func(x *names.Index) api.Errno { return x.SetText(n, text) }, want}
}

func valuing(n api.Handle, name, value string, want api.Errno) refusal {
	return refusal{"SetAttr", func(x *names.Index) api.Errno { return x.SetAttr(n, name, value) }, want}
}

func dropping(n api.Handle, name string, want api.Errno) refusal {
	return refusal{"DropAttr", func(x *names.Index) api.Errno { return x.DropAttr(n, name) }, want}
}

func refusals() []refusal {
	l := []refusal{
		putting(0, 0, el("n"), api.ErrArg), putting(5, ha, el("-"), api.ErrArg), putting(api.Before, 0, el("n"), api.ErrArg),
		putting(api.Last, 0, api.Tree{}, api.ErrArg), putting(api.Last, ha, el("n", el("-")), api.ErrName),
		putting(api.Last, ha, text("\x00"), api.ErrText), putting(api.Last, 0, chain(65), api.ErrLong),
		putting(api.Last, hd(1, 2), el("n"), api.ErrNode), putting(api.First, hx, el("n"), api.ErrInto),
		putting(api.Last, ha, chain(64), api.ErrDeep), putting(api.Last, 0, wide(api.MaxNodes-8), api.ErrTooMany),
		moving(ha, 0, hb3, api.ErrArg), moving(ha, api.After, 0, api.ErrArg), moving(ha, api.Last, 1, api.ErrNode),
		moving(ha, api.First, ha, api.ErrCycle), moving(ha, api.Before, hc, api.ErrCycle), moving(ha, api.Last, hy, api.ErrCycle),
		moving(hb3, api.First, hz, api.ErrInto), moving(hb3, api.First, hd(9, 2), api.ErrNode),
		naming(ha, "-", api.ErrName), naming(ha, "", api.ErrName), naming(ha, long(api.MaxName+1), api.ErrName), naming(hx, "n", api.ErrKind),
		wording(ha, "t", api.ErrKind), wording(hx, "\x00", api.ErrText), wording(hx, long(api.MaxText+1), api.ErrLong),
		valuing(hx, "k", "v", api.ErrKind), valuing(ha, "-", "v", api.ErrName), valuing(ha, "k", "\x00", api.ErrText),
		valuing(ha, "n", "\xff", api.ErrText), valuing(ha, "k", long(api.MaxText+1), api.ErrLong),
		dropping(hx, "k", api.ErrKind), dropping(ha, "l", api.ErrNone), dropping(ha, "", api.ErrNone), dropping(ha, "K", api.ErrNone),
	}
	for _, n := range noNodes() {
		l = append(l, moving(n, api.First, 0, api.ErrNode), moving(n, api.After, hb1, api.ErrNode),
			refusal{"Delete", func(x *names.Index) api.Errno { return x.Delete(n) }, api.ErrNode},
			naming(n, "-", api.ErrNode), wording(n, "\x00", api.ErrNode), valuing(n, "-", "", api.ErrNode), dropping(n, "k", api.ErrNode))
	}
	return l
}

// P8.1: a call that is refused answers label's error and changes nothing: neither the document nor the lists.
func TestRefused(t *testing.T) {
	x := abc(t)
	was, spans := x.Doc().Tree().Image(), x.Doc().Spans()
	for _, r := range refusals() {
		answers(t, r.what, r.do(x), r.want)
		if !sameImage(x.Doc().Tree().Image(), was) || !slices.Equal(x.Doc().Spans(), spans) {
			t.Fatalf("%s changed the document", r.what)
		}
		listsHold(t, x, see(x.Doc()))
	}
	holds(t, x)
	// A full element, and one that has no room but for what it has.
	for i := range api.MaxAttrs - 1 {
		answers(t, "SetAttr", x.SetAttr(ha, "k"+string(rune('a'+i/8))+string(rune('a'+i%8)), "v"), api.OK)
	}
	answers(t, "SetAttr of one more", x.SetAttr(ha, "one", "v"), api.ErrLong)
	answers(t, "SetAttr of one that is there", x.SetAttr(ha, "k", "w"), api.OK)
	tells(t, "Having(one)", x.Having("one"))
	tells(t, "Valued(k, w)", x.Valued("k", "w"), ha)
	holds(t, x)
}

// P8.1, P8.5: a whole subtree that does not fit where it is to go stays where it is.
func TestTooDeep(t *testing.T) {
	x := newIndex(t, api.Image{})
	deep := insert(t, x, api.Last, 0, chain(40))
	other := insert(t, x, api.Last, 0, chain(25))
	kids, _ := x.Doc().Tree().All(deep)
	answers(t, "Move", x.Move(other, api.Last, kids[39]), api.ErrDeep)
	holds(t, x)
	answers(t, "Move", x.Move(other, api.Last, kids[38]), api.OK)
	holds(t, x)
}

// P8.1: every answer is label's, and the document is label's, whatever is done to both.
func TestAsLabel(t *testing.T) {
	for seed := range uint64(30) {
		s := newScript(dice(seed))
		x := newIndex(t, api.Image{})
		d := &label.Doc{}
		for range 120 {
			op := s.op(x.Doc().Tree())
			n, e := edit(x, op)
			want, why := edit(d, op)
			if n != want || e != why {
				t.Fatalf("%v: %x, %d; label's: %x, %d", op, n, e, want, why)
			}
		}
		if !sameImage(x.Doc().Tree().Image(), d.Tree().Image()) {
			t.Fatalf("seed %d: %v; label's %v", seed, x.Doc().Tree().Image(), d.Tree().Image())
		}
		holds(t, x)
	}
}
