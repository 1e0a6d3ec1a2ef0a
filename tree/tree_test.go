package tree_test

import (
	"fmt"
	"math"
	"testing"

	"espalier/api"
	"espalier/tree"
)

// P3.2, examples 1 and 3: indexes and generations.
func TestHandles(t *testing.T) {
	var d tree.Doc
	if n := insert(t, &d, api.Last, 0, el("a")); n != 1<<32+1 {
		t.Errorf("first: %x", n)
	}
	answers(t, "Delete", d.Delete(1<<32+1), api.OK)
	if n := insert(t, &d, api.Last, 0, el("a")); n != 2<<32+1 {
		t.Errorf("again: %x", n)
	}
	var e tree.Doc
	insert(t, &e, api.Last, 0, el("a", el("b"), text("t")))
	if l, _ := e.All(0); !same(l, []api.Handle{hd(1, 1), hd(2, 1), hd(3, 1)}) {
		t.Errorf("three: %x", l)
	}
	answers(t, "Delete", e.Delete(hd(2, 1)), api.OK)
	if n := insert(t, &e, api.Last, 0, el("c")); n != hd(2, 2) {
		t.Errorf("the second again: %x", n)
	}
}

// P3.2: nodes of a subtree get the least free indexes, in document order.
func TestIndexesInOrder(t *testing.T) {
	d := abc(t)
	answers(t, "Delete", d.Delete(hdd), api.OK)
	answers(t, "Delete", d.Delete(hb), api.OK) // 2, 3, 4 and 5 are free
	n := insert(t, d, api.First, 0, el("r", el("s", text("1"), text("2")), el("u", text("3"))))
	l, _ := d.All(n)
	if !same(l, []api.Handle{hd(2, 2), hd(3, 2), hd(4, 2), hd(5, 2), hd(7, 1), hd(8, 1)}) {
		t.Errorf("%x", l)
	}
	// Of three free ones the least; which went last plays no part.
	for _, h := range []api.Handle{hd(8, 1), hd(4, 2), ha} {
		answers(t, "Delete", d.Delete(h), api.OK)
	}
	for _, want := range []api.Handle{hd(1, 2), hd(4, 3), hd(8, 2), hd(9, 1)} {
		if n := insert(t, d, api.Last, 0, text("")); n != want {
			t.Errorf("%x; want %x", n, want)
		}
	}
}

// P3.2: the four places.
func TestInsertPlaces(t *testing.T) {
	for _, c := range []struct {
		where int
		at    api.Handle
		want  string
	}{
		{api.First, 0, "n()a(b(c()'t')d())e()"},
		{api.Last, 0, "a(b(c()'t')d())e()n()"},
		{api.Before, ha, "n()a(b(c()'t')d())e()"},
		{api.After, ha, "a(b(c()'t')d())n()e()"},
		{api.Before, he, "a(b(c()'t')d())n()e()"},
		{api.After, he, "a(b(c()'t')d())e()n()"},
		{api.First, ha, "a(n()b(c()'t')d())e()"},
		{api.Last, ha, "a(b(c()'t')d()n())e()"},
		{api.First, he, "a(b(c()'t')d())e(n())"},
		{api.Last, he, "a(b(c()'t')d())e(n())"},
		{api.Before, ht, "a(b(c()n()'t')d())e()"},
		{api.After, ht, "a(b(c()'t'n())d())e()"},
		{api.Before, hc, "a(b(n()c()'t')d())e()"},
		{api.After, hb, "a(b(c()'t')n()d())e()"},
	} {
		d := abc(t)
		n := insert(t, d, c.where, c.at, el("n"))
		if got := shape(d); got != c.want || n != hd(7, 1) || d.Len() != 7 {
			t.Errorf("%d of %x: %s; want %s", c.where, c.at, got, c.want)
		}
	}
}

// P3.2: each error, and which of two comes first.
func TestInsertErrors(t *testing.T) {
	d := abc(t)
	deep := chain(api.MaxDepth, el("x"))
	most := wide(api.MaxNodes)
	for _, where := range []int{0, -1, 5, math.MaxInt, math.MinInt} {
		refused(t, d, where, ha, el("n"), api.ErrArg)
		refused(t, d, where, 0, api.Tree{}, api.ErrArg)
		refused(t, d, where, 77, el("1"), api.ErrArg)
	}
	for _, where := range []int{api.Before, api.After} {
		refused(t, d, where, 0, el("n"), api.ErrArg)
		refused(t, d, where, 0, el("1"), api.ErrArg)
		refused(t, d, where, 77, el("1"), api.ErrName)
	}
	for _, where := range []int{api.First, api.Last, api.Before, api.After} {
		for _, at := range noNodes() {
			refused(t, d, where, at, el("n"), api.ErrNode)
			refused(t, d, where, at, text("\x00"), api.ErrText)
			refused(t, d, where, at, deep, api.ErrNode)
			refused(t, d, where, at, most, api.ErrNode)
		}
		refused(t, d, where, hc, wide(api.MaxNodes+1), api.ErrLong)
	}
	for _, where := range []int{api.First, api.Last} {
		refused(t, d, where, ht, el("n"), api.ErrInto)
		refused(t, d, where, ht, el("1"), api.ErrName)
		refused(t, d, where, ht, deep, api.ErrInto)
		refused(t, d, where, ht, most, api.ErrInto)
	}
	both := chain(api.MaxDepth-1, most)
	both.Kids = append(both.Kids, api.Tree{})
	refused(t, d, api.Last, ha, both, api.ErrLong)
	crowd := el("r", deep.Kids[0], wide(api.MaxNodes-api.MaxDepth))
	refused(t, d, api.Last, ha, crowd, api.ErrDeep)
	refused(t, d, api.Last, 0, crowd, api.ErrTooMany)
}

// P3.2: as deep as can be, and one deeper.
func TestInsertDepth(t *testing.T) {
	for n := 1; n < api.MaxDepth; n++ {
		var d tree.Doc
		top := insert(t, &d, api.Last, 0, chain(n, el("x")))
		all, _ := d.All(top)
		inner := all[len(all)-1]
		rest := api.MaxDepth - n
		refused(t, &d, api.First, inner, chain(rest+1, text("")), api.ErrDeep)
		refused(t, &d, api.Last, inner, el("y", text(""), chain(rest, el("y")), text("")), api.ErrDeep)
		if n > 1 {
			refused(t, &d, api.Before, inner, chain(rest+2, el("y")), api.ErrDeep)
			refused(t, &d, api.After, inner, chain(rest+2, text("")), api.ErrDeep)
		}
		insert(t, &d, api.Before, inner, chain(rest+1, text("")))
		insert(t, &d, api.After, inner, chain(rest+1, el("y")))
		insert(t, &d, api.Last, inner, chain(rest, text("")))
		insert(t, &d, api.First, inner, chain(rest, el("y")))
	}
}

// P3.2: as many nodes as can be, and one more.
func TestInsertCount(t *testing.T) {
	d := abc(t)
	refused(t, d, api.Last, 0, wide(api.MaxNodes-5), api.ErrTooMany)
	n := insert(t, d, api.Last, 0, wide(api.MaxNodes-6))
	if d.Len() != api.MaxNodes {
		t.Fatal(d.Len())
	}
	refused(t, d, api.Last, 0, text(""), api.ErrTooMany)
	refused(t, d, api.After, ht, text(""), api.ErrTooMany)
	refused(t, d, api.First, ht, text(""), api.ErrInto)
	answers(t, "Delete", d.Delete(hc), api.OK)
	refused(t, d, api.Last, 0, el("a", text("")), api.ErrTooMany)
	if got := insert(t, d, api.Last, n, text("")); got != hd(3, 2) {
		t.Errorf("%x", got)
	}
	refused(t, d, api.Last, 0, text(""), api.ErrTooMany)
	// Moves need no room.
	answers(t, "Move", d.Move(n, api.First, ha), api.OK)
	answers(t, "Delete", d.Delete(n), api.OK)
	if d.Len() != 5 {
		t.Errorf("%d nodes", d.Len())
	}
	insert(t, d, api.Last, 0, wide(api.MaxNodes-5))
	if s := len(d.Image().Slots); s != api.MaxNodes {
		t.Errorf("%d slots", s)
	}
}

// wornSlots is slots whose index was given as often as can be, dead, but for those of live roots.
func wornSlots(n int, live ...int) api.Image {
	var x api.Image
	for range n {
		x.Slots = append(x.Slots, api.Slot{Gen: math.MaxUint32})
	}
	for _, i := range live {
		x.Slots[i-1] = api.Slot{Gen: math.MaxUint32, Live: true, Kind: api.Text}
		x.Roots = append(x.Roots, hd(uint64(i), math.MaxUint32))
	}
	return x
}

// P3.2, P3.7: a worn index is not given, and takes a node's room.
func TestWorn(t *testing.T) {
	d := load(t, wornSlots(3, 2))
	if n := insert(t, d, api.Last, 0, text("")); n != hd(4, 1) {
		t.Errorf("%x", n)
	}
	answers(t, "Delete", d.Delete(hd(2, math.MaxUint32)), api.OK)
	if n := insert(t, d, api.Last, 0, text("")); n != hd(5, 1) {
		t.Errorf("a worn index: %x", n)
	}
	refused(t, d, api.Last, 0, wide(api.MaxNodes-4), api.ErrTooMany)
	insert(t, d, api.Last, 0, wide(api.MaxNodes-5))
	refused(t, d, api.Last, 0, text(""), api.ErrTooMany)
	if d.Len() != api.MaxNodes-3 || len(d.Image().Slots) != api.MaxNodes {
		t.Errorf("%d nodes, %d slots", d.Len(), len(d.Image().Slots))
	}
	// One time is left.
	x := wornSlots(2)
	x.Slots[0].Gen--
	d = load(t, x)
	if n := insert(t, d, api.Last, 0, text("")); n != hd(1, math.MaxUint32) {
		t.Errorf("the last time: %x", n)
	}
	answers(t, "Delete", d.Delete(hd(1, math.MaxUint32)), api.OK)
	if n := insert(t, d, api.Last, 0, text("")); n != hd(3, 1) {
		t.Errorf("behind the last time: %x", n)
	}
	d = load(t, wornSlots(api.MaxNodes))
	refused(t, d, api.Last, 0, text(""), api.ErrTooMany)
	d = load(t, wornSlots(api.MaxNodes, api.MaxNodes))
	refused(t, d, api.Last, 0, text(""), api.ErrTooMany)
	answers(t, "Delete", d.Delete(hd(api.MaxNodes, math.MaxUint32)), api.OK)
	refused(t, d, api.Last, 0, text(""), api.ErrTooMany)
}

// P3.3: every node to every place: as if it were taken away first.
func TestMovePlaces(t *testing.T) {
	for _, c := range []struct {
		n     api.Handle
		where int
		at    api.Handle
		want  string
	}{
		{hb, api.First, 0, "b(c()'t')a(d())e()"},
		{hb, api.Last, 0, "a(d())e()b(c()'t')"},
		{hb, api.After, ha, "a(d())b(c()'t')e()"},
		{hb, api.Before, ha, "b(c()'t')a(d())e()"},
		{hb, api.First, ha, "a(b(c()'t')d())e()"},
		{hb, api.Last, ha, "a(d()b(c()'t'))e()"},
		{hb, api.After, hdd, "a(d()b(c()'t'))e()"},
		{hb, api.Before, hdd, "a(b(c()'t')d())e()"},
		{hb, api.First, hdd, "a(d(b(c()'t')))e()"},
		{hdd, api.Before, hb, "a(d()b(c()'t'))e()"},
		{hdd, api.After, hb, "a(b(c()'t')d())e()"},
		{hdd, api.After, hc, "a(b(c()d()'t'))e()"},
		{ht, api.Last, he, "a(b(c())d())e('t')"},
		{ht, api.Before, hc, "a(b('t'c())d())e()"},
		{ha, api.Last, 0, "e()a(b(c()'t')d())"},
		{ha, api.First, 0, "a(b(c()'t')d())e()"},
		{ha, api.Last, he, "e(a(b(c()'t')d()))"},
		{he, api.Before, ha, "e()a(b(c()'t')d())"},
		{he, api.First, hb, "a(b(e()c()'t')d())"},
		{hc, api.Last, 0, "a(b('t')d())e()c()"},
	} {
		d := abc(t)
		answers(t, "Move", d.Move(c.n, c.where, c.at), api.OK)
		if got := shape(d); got != c.want || d.Len() != 6 {
			t.Errorf("%x to %d of %x: %s; want %s", c.n, c.where, c.at, got, c.want)
		}
		if all, _ := d.All(c.n); all[0] != c.n {
			t.Errorf("%x became %x", c.n, all[0])
		}
	}
}

// P3.3: each error of Move, and which of two comes first; nothing is changed by any.
func TestMoveErrors(t *testing.T) {
	d := abc(t)
	was := d.Image()
	moves := func(n api.Handle, where int, at api.Handle, want api.Errno) {
		t.Helper()
		answers(t, fmt.Sprintf("Move(%x, %d, %x)", n, where, at), d.Move(n, where, at), want)
		unchanged(t, d, was)
	}
	for _, where := range []int{0, -1, 5, math.MaxInt, math.MinInt} {
		moves(hc, where, ha, api.ErrArg)
		moves(77, where, 77, api.ErrArg)
		moves(ha, where, ha, api.ErrArg)
	}
	for _, where := range []int{api.Before, api.After} {
		moves(hc, where, 0, api.ErrArg)
		moves(0, where, 0, api.ErrArg)
		moves(77, where, 0, api.ErrArg)
	}
	for _, where := range []int{api.First, api.Last, api.Before, api.After} {
		for _, no := range noNodes() {
			moves(no, where, ha, api.ErrNode)
			moves(ha, where, no, api.ErrNode)
			moves(no, where, no, api.ErrNode)
			moves(no, where, ht, api.ErrNode)
		}
		moves(0, where, ha, api.ErrNode)
		for _, n := range []api.Handle{ha, hb, hc, ht} {
			moves(n, where, n, api.ErrCycle)
			moves(ha, where, n, api.ErrCycle)
		}
		moves(hb, where, ht, api.ErrCycle)
		moves(hb, where, hc, api.ErrCycle)
	}
	moves(0, api.First, 0, api.ErrNode)
	moves(hc, api.First, ht, api.ErrInto)
	moves(hc, api.Last, ht, api.ErrInto)
	moves(hdd, api.Last, ht, api.ErrInto)
	moves(ht, api.Last, ht, api.ErrCycle)
}

// P3.3: as deep as can be, and one deeper: what counts is the deepest node of what is moved.
func TestMoveDepth(t *testing.T) {
	for n := 1; n < api.MaxDepth; n++ {
		var d tree.Doc
		top := insert(t, &d, api.Last, 0, chain(n, el("x")))
		all, _ := d.All(top)
		inner := all[len(all)-1]
		fits := insert(t, &d, api.Last, 0, el("f", el("g"), el("h"), chain(api.MaxDepth-1, el("y")), el("i")))
		was := d.Image()
		answers(t, "Move", d.Move(fits, api.Last, inner), api.ErrDeep)
		answers(t, "Move", d.Move(fits, api.First, inner), api.ErrDeep)
		if n > 1 {
			answers(t, "Move", d.Move(fits, api.Before, inner), api.ErrDeep)
			answers(t, "Move", d.Move(fits, api.After, inner), api.ErrDeep)
		}
		unchanged(t, &d, was)
		deep, _ := d.All(fits)
		// deep[2+k] lies k + 1 levels below fits, for k from 1 on: MaxDepth - k - 1 nodes one in the other.
		k := n - 1
		part := deep[3+k]
		answers(t, "Move", d.Move(part, api.Last, inner), api.OK)
		if lv, _ := d.Level(part); lv != n {
			t.Errorf("level %d; want %d", lv, n)
		}
		last, _ := d.All(part)
		if lv, _ := d.Level(last[len(last)-1]); lv != api.MaxDepth-1 {
			t.Errorf("the deepest at %d", lv)
		}
	}
	// A text that is full up: ErrInto ahead of ErrDeep.
	var d tree.Doc
	a := insert(t, &d, api.Last, 0, chain(api.MaxDepth, text("t")))
	all, _ := d.All(a)
	n := insert(t, &d, api.Last, 0, el("n"))
	answers(t, "Move", d.Move(n, api.Last, all[api.MaxDepth-1]), api.ErrInto)
	answers(t, "Move", d.Move(n, api.Last, all[api.MaxDepth-2]), api.OK)
}

// P3.3: what goes goes with all within it, and nothing else does.
func TestDelete(t *testing.T) {
	for _, c := range []struct {
		n    api.Handle
		want string
		gone []api.Handle
	}{
		{ha, "e()", []api.Handle{ha, hb, hc, ht, hdd}},
		{hb, "a(d())e()", []api.Handle{hb, hc, ht}},
		{hc, "a(b('t')d())e()", []api.Handle{hc}},
		{ht, "a(b(c())d())e()", []api.Handle{ht}},
		{hdd, "a(b(c()'t'))e()", []api.Handle{hdd}},
		{he, "a(b(c()'t')d())", []api.Handle{he}},
	} {
		d := abc(t)
		answers(t, "Delete", d.Delete(c.n), api.OK)
		if got := shape(d); got != c.want || d.Len() != 6-len(c.gone) {
			t.Errorf("%x: %s, %d; want %s", c.n, got, d.Len(), c.want)
		}
		for _, h := range c.gone {
			noNode(t, d, h)
		}
	}
	d := abc(t)
	was := d.Image()
	for _, h := range append(noNodes(), 0) {
		answers(t, "Delete", d.Delete(h), api.ErrNode)
	}
	unchanged(t, d, was)
}

// noNode: every call tells that a handle is none.
func noNode(t *testing.T, d *tree.Doc, n api.Handle) {
	t.Helper()
	was := d.Image()
	if x, e := d.Get(n); !same(x, api.Tree{}) || e != api.ErrNode {
		t.Errorf("Get(%x): %v, %d", n, x, e)
	}
	if x, e := d.Subtree(n); !same(x, api.Tree{}) || e != api.ErrNode {
		t.Errorf("Subtree(%x): %v, %d", n, x, e)
	}
	if p, e := d.Parent(n); p != 0 || e != api.ErrNode {
		t.Errorf("Parent(%x): %x, %d", n, p, e)
	}
	if l, e := d.Kids(n); len(l) != 0 || e != api.ErrNode {
		t.Errorf("Kids(%x): %x, %d", n, l, e)
	}
	if l, e := d.Level(n); l != 0 || e != api.ErrNode {
		t.Errorf("Level(%x): %d, %d", n, l, e)
	}
	if l, e := d.All(n); n != 0 && (len(l) != 0 || e != api.ErrNode) {
		t.Errorf("All(%x): %x, %d", n, l, e)
	}
	answers(t, "SetName", d.SetName(n, "1"), api.ErrNode)
	answers(t, "SetText", d.SetText(n, "\x00"), api.ErrNode)
	answers(t, "SetAttr", d.SetAttr(n, "1", "\x00"), api.ErrNode)
	answers(t, "DropAttr", d.DropAttr(n, "1"), api.ErrNode)
	answers(t, "Delete", d.Delete(n), api.ErrNode)
	answers(t, "Move", d.Move(n, api.First, 0), api.ErrNode)
	unchanged(t, d, was)
}
