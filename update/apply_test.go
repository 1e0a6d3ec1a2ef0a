package update_test

import (
	"math"
	"slices"
	"testing"

	"espalier/api"
	"espalier/label"
	"espalier/update"
)

const abcForest = "a[k=1](b(c 't') d) e"

// P17.4: nothing to do, and nothing to do it on.
func TestNone(t *testing.T) {
	applied(t, abc(t), nil, nil, abcForest)
	applied(t, abc(t), []api.Op{}, nil, abcForest)
	applied(t, &label.Doc{}, nil, nil, "")
	for _, l := range [][]api.Op{nil, oneEach(), {{}}, make([]api.Op, api.MaxOps+1)} {
		if put, at, e := update.Apply(nil, l); len(put) != 0 || at != 0 || e != api.ErrArg {
			t.Errorf("Apply: %x, %d, %d", put, at, e)
		}
		if put, at, e := update.Trial(nil, l); len(put) != 0 || at != 0 || e != api.ErrArg {
			t.Errorf("Trial: %x, %d, %d", put, at, e)
		}
	}
}

// P17.3: one of each kind, with its fields.
func TestEach(t *testing.T) {
	for _, c := range []struct {
		op   api.Op
		put  []api.Handle
		want string
	}{
		{rename(ha, "z"), nil, "z[k=1](b(c 't') d) e"},
		{retext(ht, "<&>"), nil, "a[k=1](b(c '<&>') d) e"},
		{attr(ha, "k", "2"), nil, "a[k=2](b(c 't') d) e"},
		{attr(ha, "j", "2"), nil, "a[j=2][k=1](b(c 't') d) e"},
		{drop(ha, "k"), nil, "a(b(c 't') d) e"},
		{insert(api.First, hb, el("n")), []api.Handle{hd(7, 1)}, "a[k=1](b(n c 't') d) e"},
		{insert(api.Last, hb, el("n")), []api.Handle{hd(7, 1)}, "a[k=1](b(c 't' n) d) e"},
		{insert(api.Before, hb, el("n")), []api.Handle{hd(7, 1)}, "a[k=1](n b(c 't') d) e"},
		{insert(api.After, hb, el("n", text("x"))), []api.Handle{hd(7, 1)}, "a[k=1](b(c 't') n('x') d) e"},
		{insert(api.First, 0, text("x")), []api.Handle{hd(7, 1)}, "'x' a[k=1](b(c 't') d) e"},
		{move(ht, api.First, ha), nil, "a[k=1]('t' b(c) d) e"},
		{move(hb, api.Last, 0), nil, "a[k=1](d) e b(c 't')"},
		{move(hb, api.After, he), nil, "a[k=1](d) e b(c 't')"},
		{move(he, api.Before, hb), nil, "a[k=1](e b(c 't') d)"},
		{replace(hb, el("n", el("m"))), []api.Handle{hd(7, 1)}, "a[k=1](n(m) d) e"},
		{replace(ha, text("x")), []api.Handle{hd(7, 1)}, "'x' e"},
		{replace(he, text("x")), []api.Handle{hd(7, 1)}, "a[k=1](b(c 't') d) 'x'"},
		{remove(hb), nil, "a[k=1](d) e"},
		{remove(ha), nil, "e"},
	} {
		applied(t, abc(t), []api.Op{c.op}, c.put, c.want)
		// What its kind does not use plays no part.
		op := c.op
		switch op.Kind {
		case api.OpInsert:
			op.Node, op.Name, op.Value = 99, "1", "\x00"
		case api.OpMove:
			op.Name, op.Value, op.Tree = "1", "\x00", el("")
		case api.OpName:
			op.At, op.Where, op.Value, op.Tree = 99, -1, "\x00", el("")
		case api.OpText:
			op.At, op.Where, op.Name, op.Tree = 99, -1, "1", el("")
		case api.OpAttr:
			op.At, op.Where, op.Tree = 99, -1, el("")
		case api.OpReplace:
			op.At, op.Where, op.Name, op.Value = 99, -1, "1", "\x00"
		default:
			op.At, op.Where, op.Value, op.Tree = 99, -1, "\x00", el("")
		}
		applied(t, abc(t), []api.Op{op}, c.put, c.want)
	}
}

// P17.4: what tree refuses is refused, with its error.
func TestRefused(t *testing.T) {
	for _, c := range []struct {
		op   api.Op
		want api.Errno
	}{
		{rename(99, "z"), api.ErrNode},
		{rename(0, "z"), api.ErrNode},
		{rename(ht, "z"), api.ErrKind},
		{rename(ha, "1"), api.ErrName},
		{retext(99, "z"), api.ErrNode},
		{retext(ha, "z"), api.ErrKind},
		{retext(ht, long(api.MaxText+1)), api.ErrLong},
		{retext(ht, "\x01"), api.ErrText},
		{attr(99, "k", "v"), api.ErrNode},
		{attr(ht, "k", "v"), api.ErrKind},
		{attr(ha, "", "v"), api.ErrName},
		{attr(ha, "k", long(api.MaxText+1)), api.ErrLong},
		{attr(ha, "k", "\x01"), api.ErrText},
		{drop(99, "k"), api.ErrNode},
		{drop(ht, "k"), api.ErrKind},
		{drop(ha, "z"), api.ErrNone},
		{insert(0, ha, el("n")), api.ErrArg},
		{insert(5, ha, el("n")), api.ErrArg},
		{insert(api.Before, 0, el("n")), api.ErrArg},
		{insert(api.After, 0, el("n")), api.ErrArg},
		{insert(api.Last, 99, el("n")), api.ErrNode},
		{insert(api.First, ht, el("n")), api.ErrInto},
		{insert(api.Last, ha, chain(api.MaxDepth)), api.ErrDeep},
		{insert(api.Last, 0, wide(api.MaxNodes-5)), api.ErrTooMany},
		{move(ha, 0, 0), api.ErrArg},
		{move(ha, api.Before, 0), api.ErrArg},
		{move(99, api.Last, 0), api.ErrNode},
		{move(0, api.Last, 0), api.ErrNode},
		{move(ha, api.Last, 99), api.ErrNode},
		{move(ha, api.Last, hc), api.ErrCycle},
		{move(ha, api.Before, ha), api.ErrCycle},
		{move(he, api.Last, ht), api.ErrInto},
		{replace(0, el("n")), api.ErrArg},
		{replace(99, el("n")), api.ErrNode},
		{replace(hd(1, 2), el("n")), api.ErrNode},
		{replace(hb, chain(api.MaxDepth)), api.ErrDeep},
		{replace(ha, wide(api.MaxNodes-5)), api.ErrTooMany},
		{remove(99), api.ErrNode},
		{remove(0), api.ErrNode},
		{remove(hd(1, 2)), api.ErrNode},
		{remove(math.MaxUint64), api.ErrNode},
	} {
		refused(t, abc(t), []api.Op{c.op}, 0, c.want)
		// Behind others, of the phases ahead of it, that are made, and in front of some that would be.
		l := []api.Op{insert(api.Last, he, el("n")), rename(hb, "z"), c.op, attr(hc, "x", "y"), remove(he)}
		if c.op.Kind != api.OpInsert || c.want != api.ErrTooMany {
			refused(t, abc(t), l, 2, c.want)
		}
	}
	refused(t, &label.Doc{}, []api.Op{remove(ha)}, 0, api.ErrNode)
}

// P17.2, P17.4: which one is refused hangs on the order in which they are made, not on how they stand.
func TestRefusedFirst(t *testing.T) {
	refused(t, abc(t), []api.Op{remove(99), rename(99, "a")}, 1, api.ErrNode)
	refused(t, abc(t), []api.Op{remove(99), remove(98)}, 0, api.ErrNode)
	refused(t, abc(t), []api.Op{remove(99), replace(0, el("n")), move(ha, api.Last, hb), insert(api.Last, ht, el("n")), retext(ha, "")}, 4, api.ErrKind)
	refused(t, abc(t), []api.Op{remove(99), replace(0, el("n")), move(ha, api.Last, hb), insert(api.Last, ht, el("n"))}, 3, api.ErrInto)
	refused(t, abc(t), []api.Op{remove(99), replace(0, el("n")), move(ha, api.Last, hb)}, 2, api.ErrCycle)
	refused(t, abc(t), []api.Op{remove(99), replace(0, el("n"))}, 1, api.ErrArg)
	// What Check finds comes first, wherever it stands.
	refused(t, abc(t), []api.Op{rename(99, "a"), remove(ha), {}}, 2, api.ErrUpdate)
	refused(t, abc(t), []api.Op{rename(99, "a"), remove(ha), rename(99, "b")}, 2, api.ErrConflict)
}

// P17.3: what an edit ahead took away is not asked for. Examples 1 and 2.
func TestWentAhead(t *testing.T) {
	d := abc(t)
	applied(t, d, []api.Op{remove(hb), insert(api.Last, hb, el("n"))}, []api.Handle{hd(7, 1)}, "a[k=1](d) e")
	if _, e := d.Span(hd(7, 1)); e != api.ErrNode {
		t.Errorf("what went is live: %d", e)
	}
	applied(t, abc(t), []api.Op{remove(hb), remove(hc)}, nil, "a[k=1](d) e")
	applied(t, abc(t), []api.Op{remove(hc), remove(hb)}, nil, "a[k=1](d) e")
	applied(t, abc(t), []api.Op{remove(hb), remove(hb), remove(hb)}, nil, "a[k=1](d) e")
	applied(t, abc(t), []api.Op{remove(ha), remove(ht), remove(he)}, nil, "")
	// A deletion comes behind whatever else is done to its node.
	applied(t, abc(t), []api.Op{remove(ha), rename(ha, "z"), attr(hb, "x", ""), retext(ht, ""), drop(ha, "k"), move(hb, api.Last, he)}, nil, "e(b[x=](c ''))")
	// A replacement too: what stands within is replaced no more, nor deleted.
	applied(t, abc(t), []api.Op{remove(hc), replace(hb, el("n")), replace(ht, el("m")), remove(hb)}, []api.Handle{hd(7, 1)}, "a[k=1](n d) e")
	applied(t, abc(t), []api.Op{replace(ht, el("m")), replace(hb, el("n"))}, []api.Handle{hd(7, 1), hd(4, 2)}, "a[k=1](n d) e")
	applied(t, abc(t), []api.Op{replace(hb, el("n")), replace(ht, text("\n")), replace(he, el("o"))}, []api.Handle{hd(7, 1), hd(2, 2)}, "a[k=1](n d) o")
	// What was moved out of it stays.
	applied(t, abc(t), []api.Op{replace(hb, el("n")), move(ht, api.Last, ha), retext(ht, "u")}, []api.Handle{hd(7, 1)}, "a[k=1](n d 'u') e")
	// What went by other hands, ahead of the list, is no node.
	d = abc(t)
	d.Delete(hb)
	refused(t, d, []api.Op{remove(ha), remove(hc)}, 1, api.ErrNode)
	refused(t, d, []api.Op{remove(hb)}, 0, api.ErrNode)
	refused(t, d, []api.Op{replace(hdd, el("n")), replace(ht, el("n"))}, 1, api.ErrNode)
	// What went by a list is no node for the next one.
	d = abc(t)
	applied(t, d, []api.Op{remove(hb)}, nil, "a[k=1](d) e")
	refused(t, d, []api.Op{remove(hb)}, 0, api.ErrNode)
	refused(t, d, []api.Op{replace(hc, el("n"))}, 0, api.ErrNode)
}

// P17.3: an edit may be of a node that one ahead of it puts in, if its handle is known.
func TestPutInAhead(t *testing.T) {
	applied(t, abc(t), []api.Op{insert(api.Last, he, el("n")), insert(api.Last, hd(7, 1), text("x"))}, []api.Handle{hd(7, 1), hd(8, 1)}, abcForest+"(n('x'))")
	applied(t, abc(t), []api.Op{insert(api.Last, he, el("n", el("m"))), move(hd(8, 1), api.First, 0), remove(hd(7, 1))}, []api.Handle{hd(7, 1)}, "m "+abcForest)
	applied(t, abc(t), []api.Op{replace(hd(7, 1), el("o")), insert(api.Last, he, el("n"))}, []api.Handle{hd(8, 1), hd(7, 1)}, abcForest+"(o)")
	// Taken away with what was put in: not asked for; put in later than it is meant: no node.
	applied(t, abc(t), []api.Op{replace(he, el("n", el("m"))), replace(hd(7, 1), el("o")), remove(hd(8, 1)), remove(he)}, []api.Handle{hd(7, 1), hd(6, 2)}, "a[k=1](b(c 't') d) o")
	refused(t, abc(t), []api.Op{insert(api.Last, he, el("n")), rename(hd(7, 1), "m")}, 1, api.ErrNode)
	refused(t, abc(t), []api.Op{insert(api.Last, hd(7, 1), el("n")), insert(api.Last, he, el("m"))}, 0, api.ErrNode)
}

// P17.4: the handles stand by the numbers of the edits, of each that put in one.
func TestHandles(t *testing.T) {
	applied(t, abc(t), []api.Op{replace(hc, el("x", el("y"))), remove(he), insert(api.Last, 0, el("n", text("x"))), rename(ha, "z"), replace(hdd, el("p")), insert(api.First, 0, text("u"))},
		[]api.Handle{hd(10, 1), hd(7, 1), hd(3, 2), hd(9, 1)}, "'u' z[k=1](b(x(y) 't') p) n('x')")
	d := abc(t)
	d.Delete(hb)
	applied(t, d, []api.Op{insert(api.Last, 0, el("n", el("m"))), insert(api.First, 0, el("o"))}, []api.Handle{hd(2, 2), hd(4, 2)}, "o a[k=1](d) e n(m)")
}

// P17.2: phase by phase: what a move, or a replacement, means stands as the phases ahead left it.
func TestPhases(t *testing.T) {
	applied(t, abc(t), []api.Op{move(hb, api.Last, 0), insert(api.Last, hb, el("n"))}, []api.Handle{hd(7, 1)}, "a[k=1](d) e b(c 't' n)")
	applied(t, abc(t), []api.Op{move(hc, api.Before, hdd), insert(api.Before, hdd, el("n"))}, []api.Handle{hd(7, 1)}, "a[k=1](b('t') n c d) e")
	applied(t, abc(t), []api.Op{insert(api.After, hb, el("m")), insert(api.After, hb, el("n"))}, []api.Handle{hd(7, 1), hd(8, 1)}, "a[k=1](b(c 't') n m d) e")
	applied(t, abc(t), []api.Op{move(hc, api.First, ha), move(ht, api.First, ha)}, nil, "a[k=1]('t' c b d) e")
	applied(t, abc(t), []api.Op{move(hb, api.Last, he), move(he, api.First, ha)}, nil, "a[k=1](e(b(c 't')) d)")
	refused(t, abc(t), []api.Op{move(he, api.First, hb), move(hb, api.Last, he)}, 1, api.ErrCycle)
	// An element that became a text's neighbour is replaced where it came to stand.
	applied(t, abc(t), []api.Op{replace(hb, text("r")), move(hb, api.After, he)}, []api.Handle{hd(7, 1)}, "a[k=1](d) e 'r'")
	// Too many for a moment: the deletion comes last.
	d := plant(t, el("a"), wide(api.MaxNodes-1))
	refused(t, d, []api.Op{remove(hd(2, 1)), insert(api.Last, ha, el("n"))}, 1, api.ErrTooMany)
	refused(t, d, []api.Op{remove(hd(2, 1)), replace(ha, el("n"))}, 1, api.ErrTooMany)
}

// What is handed in is neither changed nor kept, its spare room included; an answer is new memory.
func TestMemory(t *testing.T) {
	l := append(make([]api.Op, 0, 40), oneEach()...)
	x := el("n", el("m"), text("x"))
	x.Attrs = []api.Attr{{Name: "k", Value: "1"}, {Name: "l", Value: "2"}}
	l = append(l, insert(api.Last, 0, x), replace(hb, x))
	room := l[:cap(l)]
	for i := len(l); i < len(room); i++ {
		room[i] = rename(he, "spare")
	}
	was := copyOps(room)
	d := abc(t)
	update.Check(l)
	order, _ := update.Plan(l)
	again, _ := update.Plan(l)
	put, _, e := update.Trial(d, l)
	if e != api.OK {
		t.Fatal(e)
	}
	for i := range put[:cap(put)] {
		put[:cap(put)][i] = 99
	}
	for i := range order[:cap(order)] {
		order[:cap(order)][i] = 99
	}
	if !slices.Equal(again, []int{3, 4, 5, 6, 0, 8, 1, 7, 9, 2}) {
		t.Errorf("Plan: %d", again)
	}
	put, _, _ = update.Apply(d, l)
	if !slices.Equal(put, []api.Handle{hd(7, 1), hd(11, 1), hd(8, 1), hd(5, 2)}) {
		t.Errorf("Apply: %x", put)
	}
	if !slices.EqualFunc(room, was, sameOp) {
		t.Error("the list was changed")
	}
	now := stateOf(d)
	x.Attrs[0].Value, x.Kids[0].Name = "9", "z"
	for i := range put[:cap(put)] {
		put[:cap(put)][i] = 99
	}
	for i := range room {
		room[i] = api.Op{}
	}
	if !sameState(stateOf(d), now) {
		t.Error("the document knows of what was handed in")
	}
}
