package differ_test

import (
	"testing"

	"espalier/api"
	"espalier/differ"
)

// abc is <a k="1"><b><c/>t</b><d/></a><e/>; its handles are of the indexes 1 to 6.
func abc() []api.Tree {
	return []api.Tree{with(el("a", el("b", el("c"), text("t")), el("d")), "k", "1"), el("e")}
}

// P18.3: each kind of edit, on the document of the forest; one behind the other.
func TestPatch(t *testing.T) {
	for i, x := range []struct {
		l    []api.Op
		want string
	}{
		{nil, "a[k=1](b(c 't') d) e"},
		{[]api.Op{insert(api.Last, hd(2, 1), el("n", text("x")))}, "a[k=1](b(c 't' n('x')) d) e"},
		{[]api.Op{insert(api.First, 0, text("x"))}, "'x' a[k=1](b(c 't') d) e"},
		{[]api.Op{insert(api.Before, hd(6, 1), el("n")), rename(hd(7, 1), "m")}, "a[k=1](b(c 't') d) m e"},
		{[]api.Op{move(hd(5, 1), api.After, hd(3, 1))}, "a[k=1](b(c d 't')) e"},
		{[]api.Op{remove(hd(2, 1))}, "a[k=1](d) e"},
		{[]api.Op{remove(hd(2, 1)), insert(api.Last, 0, el("n")), attr(hd(2, 2), "x", "y")}, "a[k=1](d) e n[x=y]"},
		{[]api.Op{rename(hd(1, 1), "z"), retext(hd(4, 1), ""), attr(hd(1, 1), "j", "2"), drop(hd(1, 1), "k")}, "z[j=2](b(c '') d) e"},
		{[]api.Op{attr(hd(1, 1), "k", "2"), attr(hd(6, 1), "k", "")}, "a[k=2](b(c 't') d) e[k=]"},
		{[]api.Op{remove(hd(1, 1)), remove(hd(6, 1))}, ""},
	} {
		got, at, e := differ.Patch(abc(), x.l)
		if plain(got) != x.want || at != 0 || e != api.OK {
			t.Errorf("%d: %s, %d, %d; want %s", i, plain(got), at, e, x.want)
		}
	}
	patched(t, []api.Tree{el("p")}, []api.Op{rename(hd(1, 1), "q")}, []api.Tree{el("q")}) // the second example of the chapter
}

// P18.3: the number of the edit that is none, or is refused.
func TestPatchRefused(t *testing.T) {
	good := rename(hd(1, 1), "z")
	for i, x := range []struct {
		op api.Op
		e  api.Errno
	}{
		{api.Op{}, api.ErrScript},
		{api.Op{Kind: -1, Node: hd(1, 1)}, api.ErrScript},
		{api.Op{Kind: api.OpReplace, Node: hd(1, 1), Tree: el("n")}, api.ErrScript},
		{api.Op{Kind: 9}, api.ErrScript},
		{insert(0, hd(1, 1), el("n")), api.ErrArg},
		{insert(api.Before, 0, el("n")), api.ErrArg},
		{insert(api.Last, 0, el("1")), api.ErrName},
		{insert(api.Last, 0, api.Tree{}), api.ErrArg},
		{insert(api.Last, hd(7, 1), el("n")), api.ErrNode},
		{insert(api.Last, hd(4, 1), el("n")), api.ErrInto},
		{insert(api.Last, hd(1, 1), chain(api.MaxDepth)), api.ErrDeep},
		{insert(api.Last, 0, el("n", flat(api.MaxNodes-6, text(""))...)), api.ErrTooMany},
		{move(hd(1, 1), api.Last, hd(3, 1)), api.ErrCycle},
		{move(hd(1, 2), api.Last, 0), api.ErrNode},
		{remove(0), api.ErrNode},
		{rename(hd(4, 1), "n"), api.ErrKind},
		{rename(hd(2, 1), ""), api.ErrName},
		{retext(hd(2, 1), ""), api.ErrKind},
		{retext(hd(4, 1), "\x00"), api.ErrText},
		{attr(hd(2, 1), "k", long(api.MaxText+1)), api.ErrLong},
		{drop(hd(2, 1), "k"), api.ErrNone},
	} {
		unpatched(t, abc(), []api.Op{x.op}, 0, x.e)
		unpatched(t, abc(), []api.Op{good, good, x.op, {}}, 2, x.e)
		if t.Failed() {
			t.Fatalf("edit %d", i)
		}
	}
	// The first one, whatever stands behind it; an edit may be refused for what one ahead did.
	unpatched(t, abc(), []api.Op{remove(hd(1, 1)), rename(hd(2, 1), "n"), {}}, 1, api.ErrNode)
}

// P18.3: what the forest is goes ahead of the edits.
func TestPatchOfNone(t *testing.T) {
	unpatched(t, []api.Tree{{}}, []api.Op{{}}, 0, api.ErrArg)
	unpatched(t, []api.Tree{el("a"), el("1")}, nil, 0, api.ErrName)
	unpatched(t, flat(api.MaxNodes+1, el("a")), []api.Op{{}}, 0, api.ErrLong)
	unpatched(t, append(flat(api.MaxNodes+1, el("a")), text("\x00")), nil, 0, api.ErrText)
	unpatched(t, []api.Tree{chain(api.MaxDepth + 1)}, nil, 0, api.ErrLong)
	unpatched(t, nil, []api.Op{remove(hd(1, 1))}, 0, api.ErrNode)
	patched(t, nil, nil, nil)
	patched(t, flat(api.MaxNodes, el("a")), nil, flat(api.MaxNodes, el("a")))
	// What a kind does not use is not answered.
	f := abc()
	litter(&f[0])
	patched(t, f, nil, abc())
}

// There may be more edits than a list of other layers has.
func TestPatchMany(t *testing.T) {
	var l []api.Op
	for range api.MaxOps {
		l = append(l, rename(hd(1, 1), "x"), rename(hd(1, 1), "y"))
	}
	patched(t, []api.Tree{el("p")}, l, []api.Tree{el("y")})
	unpatched(t, []api.Tree{el("p")}, append(l, api.Op{}), 2*api.MaxOps, api.ErrScript)
}

// Nothing of an answer is shared with the forest, with an edit, or with another list of it.
func TestPatchMemory(t *testing.T) {
	x := with(el("n", with(el("m"), "k", "1")), "k", "2")
	f := append(make([]api.Tree, 0, 10), x, x)
	l := []api.Op{insert(api.Last, 0, x), insert(api.First, hd(1, 1), x)}
	got, _, e := differ.Patch(f, l)
	if e != api.OK {
		t.Fatal(e)
	}
	was := plain(got)
	spoil(&got[0])
	if s := plain(got[1:]); was[len(was)-len(s):] != s {
		t.Errorf("lists of one answer are shared: %s", s)
	}
	for i := range got {
		spoil(&got[i])
	}
	for i := range got[:cap(got)] {
		got[:cap(got)][i] = api.Tree{Kind: 99}
	}
	again, _, _ := differ.Patch(f, l)
	if plain(again) != was || f[:3][2].Kind != 0 {
		t.Errorf("what was answered is shared: %s; want %s", plain(again), was)
	}
}
