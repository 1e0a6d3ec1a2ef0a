package differ_test

import (
	"slices"
	"testing"

	"espalier/api"
	"espalier/differ"
)

// P18.2, P18.7: any forests: there, and back again.
func TestScriptAny(t *testing.T) {
	t.Parallel()
	for seed := range uint64(3000) {
		m := newMaker(seed)
		a, b := m.forest(m.IntN(20)), m.forest(m.IntN(20))
		if m.IntN(3) > 0 {
			b = m.edited(plant(t, a...), m.IntN(8)).Forest()
		}
		there, back := scripted(t, a, b), scripted(t, b, a)
		got, _, _ := differ.Patch(a, there)
		got, at, e := differ.Patch(got, back)
		if at != 0 || e != api.OK || !sameForest(got, a) {
			t.Fatalf("there and back %s is %s", plain(a), plain(got))
		}
	}
}

// P18.2: none, if the forests are the same; what a kind does not use plays no part.
func TestScriptNone(t *testing.T) {
	m := newMaker(2)
	for range 300 {
		a := m.forest(m.IntN(30))
		b := copyForest(a)
		for i := range b {
			litter(&b[i])
		}
		for _, x := range [][2][]api.Tree{{a, a}, {a, b}, {b, a}} {
			if l, e := differ.Script(x[0], x[1]); len(l) != 0 || e != api.OK {
				t.Fatalf("Script of %s and the same: %v, %d", plain(a), l, e)
			}
		}
	}
}

// litter fills what the kind of a node does not use.
func litter(x *api.Tree) {
	if x.Kind == api.Text {
		x.Name, x.Attrs, x.Kids = "1", []api.Attr{{Name: "1"}}, []api.Tree{{}, el("a")}
		return
	}
	x.Text = "\x00"
	for i := range x.Kids {
		litter(&x.Kids[i])
	}
}

// P18.2: the first error, of a ahead of b, of the trees ahead of the number of all.
func TestScriptRefused(t *testing.T) {
	many := flat(api.MaxNodes+1, el("a"))
	for i, x := range []struct {
		a, b []api.Tree
		e    api.Errno
	}{
		{[]api.Tree{{}}, []api.Tree{el("1")}, api.ErrArg},
		{[]api.Tree{el("a"), el("a", el("1"))}, []api.Tree{{}}, api.ErrName},
		{nil, []api.Tree{{}}, api.ErrArg},
		{[]api.Tree{chain(api.MaxDepth + 1)}, nil, api.ErrLong},
		{nil, []api.Tree{text(long(api.MaxText + 1))}, api.ErrLong},
		{[]api.Tree{text("\xff")}, nil, api.ErrText},
		{many, []api.Tree{{}}, api.ErrLong},
		{nil, many, api.ErrLong},
		{append(slices.Clone(many), el("1")), nil, api.ErrName},
		{[]api.Tree{el("a"), el("a", many[2:]...)}, many, api.ErrLong},
	} {
		if l, e := differ.Script(x.a, x.b); len(l) != 0 || e != x.e {
			t.Errorf("%d: %d edits, %d; want %d", i, len(l), e, x.e)
		}
	}
	// Texts side by side may be longer together than one may be.
	scripted(t, []api.Tree{text(long(api.MaxText)), text(long(api.MaxText))}, flat(3, text(long(api.MaxText))))
}

// What is usual takes as many edits as one would make by hand.
func TestScriptShort(t *testing.T) {
	big := func(name string) api.Tree {
		return with(el(name, el("b", text("x")), text(" "), el("c", el("d"), text("y"))), "k", "1")
	}
	blank := text(" ")
	list := []api.Tree{big("p"), blank, big("q"), blank, el("r", text("1")), blank, el("r", text("2"))}
	in := func(l ...api.Tree) []api.Tree { return []api.Tree{el("all", l...)} }
	change := func(i int, x ...api.Tree) []api.Tree { return in(slices.Replace(slices.Clone(list), i, i+1, x...)...) }
	other := big("q")
	other.Kids = slices.Clone(other.Kids)
	other.Kids[2] = el("c", el("d"), text("z"))
	for i, x := range []struct {
		a, b []api.Tree
		n    int
	}{
		{in(list...), change(0), 1},                                                             // one taken out
		{in(list...), in(list[2:]...), 2},                                                       // two taken out ahead
		{in(list...), in(list[:5]...), 2},                                                       // two taken out behind
		{in(list...), change(3, blank, big("n")), 1},                                            // one put in
		{in(list...), change(2, other), 1},                                                      // a text within changed
		{in(list...), change(2, big("z")), 1},                                                   // renamed
		{in(list...), change(4, with(el("r", text("1")), "k", "1")), 1},                         // an attribute
		{in(list...), change(4, el("r", text("1"), big("n"), big("n"))), 2},                     // put in within
		{in(list...), change(2, el("w", big("q"))), 2},                                          // one put around
		{change(2, el("w", big("q"))), in(list...), 2},                                          // one around taken out
		{in(list...), in(slices.Concat(list[2:], list[:2])...), 3},                              // turned about: a single node is not moved
		{in(list...), change(4, el("r", text("1"), big("p"))), 1},                               // put in, though it is there
		{in(list[2:]...), in(append(slices.Clone(list[3:]), el("n", list[2]))...), 2},           // moved into a new one
		{append(in(list...), el("n")), append(in(list[1:]...), el("n", big("p"))), 1},           // moved into another one
		{in(el("m", big("p"), big("p"))), in(el("x", big("p"), el("y")), el("z", big("p"))), 5}, // twins moved into new ones, each once
		{nil, in(list...), 1},                                                                   // all put in at once
		{in(list...), nil, 1},                                                                   // all taken away at once
		{[]api.Tree{el("p")}, []api.Tree{el("q")}, 1},                                           // renamed, with nothing in it
		{[]api.Tree{el("p"), text("x")}, []api.Tree{text("x"), el("p"), el("p")}, 3},            // likewise
		{[]api.Tree{text("x"), el("p"), text("y")}, []api.Tree{el("p"), text("z")}, 2},          // the text behind is changed, that ahead goes
		{[]api.Tree{text("x"), big("p"), text("y")}, []api.Tree{text("z"), big("p")}, 2},        // likewise
	} {
		if l := scripted(t, x.a, x.b); len(l) != x.n {
			t.Errorf("%d: %d edits from %s to %s: %v; want %d", i, len(l), plain(x.a), plain(x.b), l, x.n)
		}
	}
}

// Nothing of an answer is shared with what was handed in, nor with another list of it.
func TestScriptMemory(t *testing.T) {
	x := with(el("a", with(el("b", text("x")), "k", "1")), "k", "3")
	b := []api.Tree{x, x, el("d", x, x)}
	l := scripted(t, nil, b)
	want := plain(b)
	for i := range l {
		spoil(&l[i].Tree)
	}
	if plain(b) != want {
		t.Errorf("what was answered is shared: %s", plain(b))
	}
}

// P18.2: of siblings that are alike only where they are the same, no more are touched than have to be: the longest list of them that keeps its order stays. (The number is not promised; that it stays small is what the edits are for.)
func TestScriptOfSiblings(t *testing.T) {
	m := newMaker(7)
	for range 1000 {
		a, b := m.order(), m.order()
		want := len(a) + len(b) - both(a, b) - inOrder(a, b)
		if l := scripted(t, siblings(a), siblings(b)); len(l) != want {
			t.Errorf("%v to %v: %d edits, want %d", a, b, len(l), want)
		}
	}
}

// order is a few numbers, some of them more than once.
func (m maker) order() []int {
	l := make([]int, m.IntN(10))
	for i := range l {
		l[i] = m.IntN(7)
	}
	return l
}

// both is how many numbers two lists have, each as often as both have it.
func both(a, b []int) int {
	n := 0
	rest := slices.Clone(b)
	for _, x := range a {
		if i := slices.Index(rest, x); i >= 0 {
			rest = slices.Delete(rest, i, i+1)
			n++
		}
	}
	return n
}

// siblings is an element for each number.
func siblings(l []int) []api.Tree {
	var f []api.Tree
	for _, x := range l {
		name := string(rune('a' + x))
		f = append(f, el(name, text(name)))
	}
	return f
}

// inOrder is how many of a's numbers at most stand behind each other in b, too: by trying all.
func inOrder(a, b []int) int {
	if len(a) == 0 {
		return 0
	}
	most := inOrder(a[1:], b)
	if i := slices.Index(b, a[0]); i >= 0 {
		most = max(most, 1+inOrder(a[1:], b[i+1:]))
	}
	return most
}
