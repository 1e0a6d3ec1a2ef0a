package update_test

import (
	"math"
	"slices"
	"strconv"
	"testing"
	"time"

	"espalier/api"
	"espalier/label"
	"espalier/update"
)

// soon: the list is made, and puts so many in, within a time that leaves room for slow machines, but not for a copy for each edit.
func soon(t *testing.T, d *label.Doc, l []api.Op, puts int) []api.Handle {
	t.Helper()
	begin := time.Now()
	put, at, e := update.Apply(d, l)
	if took := time.Since(begin); took > 3*time.Minute {
		t.Errorf("took %v", took)
	}
	if len(put) != puts || at != 0 || e != api.OK {
		t.Errorf("Apply: %d put in, %d, %d; want %d", len(put), at, e, puts)
	}
	return put
}

// As many edits as there may be, of each kind, in a document as full as it may be.
func TestFullLists(t *testing.T) {
	t.Parallel()
	const n = api.MaxOps
	var puts, renames, moves, replaces, removes []api.Op
	for i := range uint64(n) {
		h := hd(i+1, 1)
		puts = append(puts, insert(api.First, 0, el("a")))
		renames = append(renames, rename(h, "b"))
		moves = append(moves, move(h, api.Last, 0))
		removes = append(removes, remove(h))
		if i > 0 {
			// One node has to be free for each that is put in ahead of what it replaces.
			replaces = append(replaces, replace(h, text("r")))
		}
	}
	d := &label.Doc{}
	put := soon(t, d, puts, n)
	if put[0] != hd(1, 1) || put[n-1] != hd(n, 1) || d.Tree().Roots()[0] != hd(n, 1) {
		t.Errorf("put in %x to %x", put[0], put[n-1])
	}
	refused(t, d, []api.Op{insert(api.Last, 0, el("a"))}, 0, api.ErrTooMany)
	refused(t, d, replaces, 0, api.ErrTooMany)
	soon(t, d, renames, 0)
	soon(t, d, moves, 0)
	if l := d.Tree().Roots(); l[0] != hd(1, 1) || l[n-1] != hd(n, 1) {
		t.Errorf("moved: %x to %x", l[0], l[n-1])
	}
	removes[n-1] = remove(hd(n, 2))
	refused(t, d, removes, n-1, api.ErrNode)
	soon(t, d, []api.Op{remove(hd(1, 1))}, 0)
	put = soon(t, d, replaces, n-1)
	// Each gets the index that the one ahead of it left.
	if put[0] != hd(1, 2) || put[1] != hd(2, 2) || put[n-2] != hd(n-1, 2) {
		t.Errorf("replaced by %x, %x, %x", put[0], put[1], put[n-2])
	}
	removes = nil
	for range n / 2 {
		removes = append(removes, remove(hd(1, 2)), remove(hd(2, 2)))
	}
	soon(t, d, removes, 0)
	if d.Tree().Len() != n-3 {
		t.Errorf("%d nodes left", d.Tree().Len())
	}
}

// A list may put in and take away far more than a document can hold: it ends all the same.
func TestOverAndOver(t *testing.T) {
	t.Parallel()
	const half = api.MaxNodes / 2
	x := wide(half)
	d := plant(t, x)
	was := stateOf(d)
	var l []api.Op
	for i := range uint64(api.MaxOps) {
		// The trees lie on the lower indexes and on the upper ones in turn; each replaces the one ahead.
		l = append(l, replace(hd(i%2*half+1, i/2+1), x))
	}
	bad := slices.Clone(l)
	bad[api.MaxOps-1].Node = hd(1, 1<<31)
	begin := time.Now()
	if put, at, e := update.Apply(d, bad); len(put) != 0 || at != api.MaxOps-1 || e != api.ErrNode {
		t.Errorf("Apply: %d, %d, %d", len(put), at, e)
	}
	if took := time.Since(begin); took > 3*time.Minute {
		t.Errorf("took %v", took)
	}
	if !sameState(stateOf(d), was) {
		t.Error("changed")
	}
	put := soon(t, d, l[:200], 200)
	if put[0] != hd(half+1, 1) || put[199] != hd(1, 101) || d.Tree().Len() != half {
		t.Errorf("%x, %x", put[0], put[199])
	}
}

// Deep trees moved, whole chains over one another.
func TestDeepMoves(t *testing.T) {
	t.Parallel()
	const chains, deep = 64, api.MaxDepth
	d := &label.Doc{}
	for range chains {
		d.Insert(api.Last, 0, chain(deep))
	}
	var l []api.Op
	for i := range uint64(chains * deep) {
		l = append(l, move(hd(i+1, 1), api.Last, 0))
	}
	soon(t, d, l, 0)
	if len(d.Tree().Roots()) != chains*deep {
		t.Errorf("%d roots", len(d.Tree().Roots()))
	}
	d = plant(t, chain(deep))
	refused(t, d, []api.Op{insert(api.Last, hd(deep, 1), el("n"))}, 0, api.ErrDeep)
	refused(t, d, []api.Op{replace(hd(deep, 1), el("n", el("m")))}, 0, api.ErrDeep)
	applied(t, d, []api.Op{replace(hd(2, 1), text("x"))}, []api.Handle{hd(deep+1, 1)}, "c('x')")
}

// worn is a document of a and of b in it, whose further indexes, up to the last one, are worn, and that of b nearly.
func worn(t *testing.T) *label.Doc {
	t.Helper()
	img := plant(t, el("a", el("b"))).Tree().Image()
	img.Slots[1].Gen = math.MaxUint32 - 1
	img.Slots[0].Kids[0] = hd(2, math.MaxUint32-1)
	for range api.MaxNodes - 3 {
		img.Slots = append(img.Slots, api.Slot{Gen: math.MaxUint32})
	}
	d, e := label.Load(img)
	if e != api.OK {
		t.Fatal(e)
	}
	return d
}

// P17.4, P17.5: what is refused wears no index.
func TestWorn(t *testing.T) {
	d := worn(t)
	b := hd(2, math.MaxUint32-1)
	last := insert(api.Last, 0, el("n"))
	refused(t, d, []api.Op{last, last}, 1, api.ErrTooMany)
	refused(t, d, []api.Op{last, replace(b, el("n"))}, 1, api.ErrTooMany)
	refused(t, d, []api.Op{replace(b, el("n")), remove(hd(5, 1))}, 1, api.ErrNode)
	applied(t, d, []api.Op{replace(b, el("n"))}, []api.Handle{hd(api.MaxNodes, 1)}, "a(n)")
	applied(t, d, []api.Op{insert(api.Last, 0, el("m"))}, []api.Handle{hd(2, math.MaxUint32)}, "a(n) m")
	applied(t, d, []api.Op{remove(hd(2, math.MaxUint32)), remove(hd(2, math.MaxUint32))}, nil, "a(n)")
	refused(t, d, []api.Op{last}, 0, api.ErrTooMany)
}

// An element has no more attributes than it may, whichever edit would give it one more.
func TestFullAttrs(t *testing.T) {
	d := plant(t, el("a"))
	var l []api.Op
	for i := range api.MaxAttrs {
		l = append(l, attr(ha, "k"+strconv.Itoa(i), "1"))
	}
	full := append(slices.Clone(l), attr(ha, "z", "1"))
	refused(t, d, full, api.MaxAttrs, api.ErrLong)
	soon(t, d, l, 0)
	refused(t, d, []api.Op{attr(ha, "z", "1"), drop(ha, "k0")}, 0, api.ErrLong)
	soon(t, d, []api.Op{drop(ha, "k0"), attr(ha, "z", "1")}, 0)
	refused(t, d, []api.Op{drop(ha, "k0")}, 0, api.ErrNone)
}

// A tree that holds itself is looked at no farther than the limits.
func TestHoldsItself(t *testing.T) {
	x := el("a", el("b"))
	x.Kids[0].Kids = x.Kids
	checked(t, []api.Op{remove(1), insert(api.Last, 0, x)}, 1, api.ErrLong)
	refused(t, abc(t), []api.Op{replace(ha, x)}, 0, api.ErrLong)
}
