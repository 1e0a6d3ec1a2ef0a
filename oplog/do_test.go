package oplog_test

import (
	"slices"
	"testing"

	"espalier/api"
	"espalier/label"
	"espalier/oplog"
)

// byLabel does an edit by label's own calls, by the words of chapter 19.
func byLabel(d *label.Doc, op api.Op) (api.Handle, api.Errno) {
	e := api.ErrOp
	switch op.Kind {
	case api.OpInsert:
		return d.Insert(op.Where, op.At, op.Tree)
	case api.OpMove:
		e = d.Move(op.Node, op.Where, op.At)
	case api.OpDelete:
		e = d.Delete(op.Node)
	case api.OpName:
		e = d.SetName(op.Node, op.Name)
	case api.OpText:
		e = d.SetText(op.Node, op.Value)
	case api.OpAttr:
		e = d.SetAttr(op.Node, op.Name, op.Value)
	case api.OpDropAttr:
		e = d.DropAttr(op.Node, op.Name)
	}
	return 0, e
}

func does(t *testing.T, d *label.Doc, op api.Op, want api.Handle, why api.Errno) {
	t.Helper()
	was := image(d)
	h, e := oplog.Do(d, op)
	if h != want || e != why {
		t.Errorf("Do of %v: %x, %d; want %x, %d", op, h, e, want, why)
	}
	if e != api.OK && !sameImage(image(d), was) {
		t.Errorf("Do of %v changed what it refused", op)
	}
}

// P19.2: each Kind once, on one document.
func TestDo(t *testing.T) {
	t.Parallel()
	d := &label.Doc{}
	a, b, x := hd(1, 1), hd(2, 1), hd(3, 1)
	does(t, d, insert(api.Last, 0, el("a", el("b"), text("x"))), a, api.OK)
	does(t, d, attr(b, "k", "v"), 0, api.OK)
	does(t, d, attr(b, "j", ""), 0, api.OK)
	does(t, d, drop(b, "k"), 0, api.OK)
	does(t, d, retext(x, "y"), 0, api.OK)
	does(t, d, rename(a, "z"), 0, api.OK)
	does(t, d, move(x, api.First, a), 0, api.OK)
	does(t, d, insert(api.Before, x, text("w")), hd(4, 1), api.OK)
	does(t, d, remove(hd(4, 1)), 0, api.OK)
	does(t, d, insert(api.After, b, el("e")), hd(4, 2), api.OK)
	want := []api.Tree{el("z", text("y"), with(el("b"), "j", ""), el("e"))}
	if got := d.Tree().Forest(); !slices.EqualFunc(got, want, sameTree) {
		t.Errorf("%v; want %v", got, want)
	}
}

// P19.2: the errors of label's calls, each of its Kind; what can't be logged is told ahead of them.
func TestDoRefused(t *testing.T) {
	t.Parallel()
	d := plant(t, el("a", with(el("b"), "k", ""), text("x")))
	a, b, x, none := hd(1, 1), hd(2, 1), hd(3, 1), hd(1, 2)
	for _, c := range []struct {
		op   api.Op
		want api.Errno
	}{
		{insert(0, a, el("c")), api.ErrArg}, {insert(5, a, el("c")), api.ErrArg}, {insert(255, a, el("c")), api.ErrArg}, {insert(api.Before, 0, el("c")), api.ErrArg},
		{insert(api.Last, none, el("c")), api.ErrNode}, {insert(api.Last, x, el("c")), api.ErrInto}, {insert(api.Last, a, chain(api.MaxDepth)), api.ErrDeep}, {insert(api.Last, 0, wide(api.MaxNodes)), api.ErrTooMany},
		{insert(0, none, el("1")), api.ErrOp}, {insert(256, a, el("c")), api.ErrOp}, {insert(api.Last, none, chain(api.MaxDepth+1)), api.ErrOp},
		{move(a, api.After, 0), api.ErrArg}, {move(a, 0, b), api.ErrArg}, {move(none, api.First, a), api.ErrNode}, {move(a, api.First, none), api.ErrNode}, {move(a, api.First, b), api.ErrCycle}, {move(b, api.First, x), api.ErrInto}, {move(b, -1, x), api.ErrOp},
		{remove(none), api.ErrNode}, {remove(0), api.ErrNode},
		{rename(none, "c"), api.ErrNode}, {rename(x, "c"), api.ErrKind}, {rename(a, "1"), api.ErrName}, {rename(a, ""), api.ErrName}, {rename(a, long(api.MaxName+1)), api.ErrName}, {rename(none, "\x00"), api.ErrOp},
		{retext(none, "y"), api.ErrNode}, {retext(a, "y"), api.ErrKind}, {retext(none, "\x00"), api.ErrOp}, {retext(x, "\x00"), api.ErrOp}, {retext(x, long(api.MaxText+1)), api.ErrOp},
		{attr(none, "j", ""), api.ErrNode}, {attr(x, "j", ""), api.ErrKind}, {attr(a, "", ""), api.ErrName}, {attr(a, "j", "\x00"), api.ErrOp}, {attr(a, "\x00", ""), api.ErrOp},
		{drop(none, "k"), api.ErrNode}, {drop(x, "k"), api.ErrKind}, {drop(b, "j"), api.ErrNone}, {drop(b, "?"), api.ErrNone}, {drop(b, "\x00"), api.ErrOp},
		{api.Op{Kind: api.OpReplace, Node: b, Tree: el("c")}, api.ErrOp}, {api.Op{}, api.ErrOp},
	} {
		does(t, d, c.op, 0, c.want)
	}
}

// P19.2: without a document ErrArg, whatever the edit is.
func TestNoDocument(t *testing.T) {
	t.Parallel()
	for _, op := range []api.Op{{}, {Kind: api.OpReplace}, insert(api.Last, 0, el("a")), move(1, 300, 0), remove(1), rename(1, "a"), retext(1, "\x00"), attr(1, "a", ""), drop(1, "a")} {
		if h, e := oplog.Do(nil, op); h != 0 || e != api.ErrArg {
			t.Errorf("Do of %v: %x, %d", op, h, e)
		}
		if n, e := oplog.Replay(nil, []api.Op{op}); n != 0 || e != api.ErrArg {
			t.Errorf("Replay of %v: %d, %d", op, n, e)
		}
	}
	if n, e := oplog.Replay(nil, nil); n != 0 || e != api.ErrArg {
		t.Errorf("Replay: %d, %d", n, e)
	}
}

// P19.2: edit by edit Do is what label's calls are, whatever the document came to be.
func TestDoAsLabel(t *testing.T) {
	t.Parallel()
	done := 0
	for seed := range uint64(40) {
		m := newMaker(100 + seed)
		d, twin := &label.Doc{}, &label.Doc{}
		for range 150 {
			op := m.edit(d)
			h, e := oplog.Do(d, op)
			wantH, want := byLabel(twin, op)
			if h != wantH || e != want {
				t.Fatalf("Do of %v: %x, %d; want %x, %d", op, h, e, wantH, want)
			}
			if e == api.OK {
				done++
			}
		}
		if !sameImage(image(d), image(twin)) || !slices.Equal(d.Spans(), twin.Spans()) || d.Tags() != twin.Tags() || d.Writes() != twin.Writes() {
			t.Fatalf("seed %d: another document", seed)
		}
	}
	if done < 1000 {
		t.Errorf("%d edits done", done)
	}
}

// P19.2: Replay does the edits up to the first that is refused, and tells how many.
func TestReplay(t *testing.T) {
	t.Parallel()
	a := hd(1, 1)
	l := []api.Op{insert(api.Last, 0, el("a")), attr(a, "k", "v"), rename(a, "b"), remove(a), remove(a), insert(api.Last, 0, el("c"))}
	for n := range 5 {
		d := &label.Doc{}
		if k, e := oplog.Replay(d, l[:n]); k != n || e != api.OK {
			t.Errorf("Replay of %d: %d, %d", n, k, e)
		}
	}
	d := &label.Doc{}
	if k, e := oplog.Replay(d, l); k != 4 || e != api.ErrNode || d.Tree().Len() != 0 {
		t.Errorf("Replay: %d, %d, %d nodes", k, e, d.Tree().Len())
	}
	// What was done stays done; what stands behind is not done.
	d = &label.Doc{}
	if k, e := oplog.Replay(d, []api.Op{l[0], l[1], {Kind: api.OpReplace}, l[2]}); k != 2 || e != api.ErrOp || !sameTree(d.Tree().Forest()[0], with(el("a"), "k", "v")) {
		t.Errorf("Replay: %d, %d, %v", k, e, d.Tree().Forest())
	}
	if k, e := oplog.Replay(d, nil); k != 0 || e != api.OK {
		t.Errorf("Replay of none: %d, %d", k, e)
	}
	if k, e := oplog.Replay(d, []api.Op{rename(99, "a"), l[2]}); k != 0 || e != api.ErrNode || d.Tree().Forest()[0].Name != "a" {
		t.Errorf("Replay: %d, %d", k, e)
	}
}

// P19.2: Replay has no limit on how many edits there are.
func TestReplayLong(t *testing.T) {
	t.Parallel()
	d := plant(t, el("a"))
	l := slices.Repeat([]api.Op{rename(hd(1, 1), "b"), rename(hd(1, 1), "c")}, api.MaxOps)
	if k, e := oplog.Replay(d, l); k != len(l) || e != api.OK || d.Tree().Forest()[0].Name != "c" {
		t.Errorf("Replay: %d, %d", k, e)
	}
}
