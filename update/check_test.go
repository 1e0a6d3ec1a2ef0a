package update_test

import (
	"math"
	"slices"
	"testing"

	"espalier/api"
	"espalier/tree"
	"espalier/update"
)

// oneEach is an edit of each kind, of abc.
func oneEach() []api.Op {
	return []api.Op{insert(api.Last, ha, el("n")), move(hc, api.Last, ha), remove(he), rename(ha, "z"), retext(ht, "u"), attr(hb, "k", "v"), drop(ha, "k"), replace(hdd, text("r"))}
}

// P17.1: a kind is one of the eight.
func TestCheckKinds(t *testing.T) {
	checked(t, nil, 0, api.OK)
	checked(t, []api.Op{}, 0, api.OK)
	checked(t, oneEach(), 0, api.OK)
	for _, kind := range []int{0, 9, -1, -8, 10, 255, 257, 1<<32 + 1, math.MaxInt, math.MinInt} {
		wrong := api.Op{Kind: kind, Node: ha, Name: "a", Tree: el("n")}
		checked(t, []api.Op{wrong}, 0, api.ErrUpdate)
		checked(t, append(oneEach(), wrong, wrong), 8, api.ErrUpdate)
	}
	for kind := 1; kind <= 8; kind++ {
		checked(t, []api.Op{{Kind: kind, Tree: text("")}}, 0, api.OK)
	}
}

// P17.1: the trees of OpInsert and of OpReplace are looked at, those of no others.
func TestCheckTrees(t *testing.T) {
	twoAttrs := el("a")
	twoAttrs.Attrs = []api.Attr{{Name: "k"}, {Name: "k"}}
	longValue := el("a", el("b"))
	longValue.Kids[0].Attrs = []api.Attr{{Name: "k", Value: long(api.MaxText + 1)}}
	for _, c := range []struct {
		x    api.Tree
		want api.Errno
	}{
		{api.Tree{}, api.ErrArg},
		{el("a", api.Tree{Kind: 3}), api.ErrArg},
		{el(""), api.ErrName},
		{el("a", el("1")), api.ErrName},
		{twoAttrs, api.ErrName},
		{longValue, api.ErrLong},
		{text(long(api.MaxText + 1)), api.ErrLong},
		{text("\x00"), api.ErrText},
		{text("\xff"), api.ErrText},
		{chain(api.MaxDepth + 1), api.ErrLong},
		{wide(api.MaxNodes + 1), api.ErrLong},
		{chain(api.MaxDepth), api.OK},
		{wide(api.MaxNodes), api.OK},
		{text(long(api.MaxText)), api.OK},
	} {
		if e := tree.Check(c.x); e != c.want {
			t.Fatalf("tree.Check: %d; want %d", e, c.want)
		}
		checked(t, []api.Op{insert(api.Last, 0, c.x)}, 0, c.want)
		checked(t, []api.Op{replace(ha, c.x)}, 0, c.want)
		number := 0
		if c.want != api.OK {
			number = 2
		}
		checked(t, []api.Op{remove(ha), remove(hb), insert(api.Last, 0, c.x)}, number, c.want)
		for _, kind := range []int{api.OpMove, api.OpDelete, api.OpName, api.OpText, api.OpAttr, api.OpDropAttr} {
			checked(t, []api.Op{{Kind: kind, Node: ha, Name: "a", Tree: c.x}}, 0, api.OK)
		}
	}
}

// P17.1: what else may be wrong with an edit is not Check's affair.
func TestCheckLeaves(t *testing.T) {
	checked(t, []api.Op{insert(9, 99, el("a")), move(0, -1, 99), remove(99), rename(99, "1"), retext(99, "\x00"), attr(99, "", "\xff"), drop(99, "1"), replace(98, el("a"))}, 0, api.OK)
	checked(t, []api.Op{attr(ha, long(99), long(api.MaxText+1))}, 0, api.OK)
}

// P17.1: two edits of one thing. Example 2.
func TestCheckConflicts(t *testing.T) {
	for _, l := range [][]api.Op{
		{move(ha, api.First, hb), move(ha, api.Last, 0)},
		{rename(ha, "x"), rename(ha, "y")},
		{rename(ha, "x"), rename(ha, "x")},
		{retext(ha, "x"), retext(ha, "y")},
		{replace(ha, el("x")), replace(ha, el("y"))},
		{attr(ha, "k", "1"), attr(ha, "k", "2")},
		{attr(ha, "k", "1"), drop(ha, "k")},
		{drop(ha, "k"), attr(ha, "k", "1")},
		{drop(ha, "k"), drop(ha, "k")},
		{rename(0, "x"), rename(0, "y")},
		{move(99, 0, 0), move(99, 0, 0)},
		{attr(0, "", ""), drop(0, "")},
	} {
		checked(t, l, 1, api.ErrConflict)
		checked(t, append(l[:1:1], remove(hc), l[1], l[0]), 2, api.ErrConflict)
		if _, e := update.Plan(l); e != api.ErrConflict {
			t.Errorf("Plan: %d", e)
		}
		refused(t, abc(t), l, 1, api.ErrConflict)
	}
}

// P17.1: edits that have something in common, and yet are of two things.
func TestCheckNoConflict(t *testing.T) {
	for _, l := range [][]api.Op{
		{remove(ha), remove(ha)},
		{insert(api.Last, ha, el("x")), insert(api.Last, ha, el("x"))},
		{move(hb, api.Last, 0), move(hc, api.Last, 0)},
		{rename(ha, "x"), rename(hb, "x")},
		{retext(ha, "x"), retext(hb, "x")},
		{replace(ha, el("x")), replace(hb, el("x"))},
		{attr(ha, "k", "1"), attr(ha, "l", "1")},
		{attr(ha, "k", "1"), attr(hb, "k", "1")},
		{attr(ha, "k", "1"), drop(ha, "l")},
		{drop(ha, "k"), drop(hb, "k")},
		{rename(ha, "k"), attr(ha, "k", "1")},
		{rename(ha, "k"), drop(ha, "k")},
		{rename(ha, ""), retext(ha, ""), move(ha, 0, 0), replace(ha, el("x")), attr(ha, "", ""), remove(ha)},
		// The Node of an OpInsert plays no part, nor does the Name of a rename in who is renamed.
		{{Kind: api.OpInsert, Node: ha, Tree: el("x")}, {Kind: api.OpInsert, Node: ha, Tree: el("x")}},
	} {
		checked(t, l, 0, api.OK)
		slices.Reverse(l)
		checked(t, l, 0, api.OK)
	}
	// What plays no part does not tell two of one thing apart.
	a, b := rename(ha, "x"), rename(ha, "y")
	b.At, b.Where, b.Value, b.Tree = hb, 3, "v", el("t")
	checked(t, []api.Op{a, b}, 1, api.ErrConflict)
	a, b = move(ha, api.First, 0), move(ha, api.Last, hb)
	b.Name, b.Value = "n", "v"
	checked(t, []api.Op{a, b}, 1, api.ErrConflict)
}

// P17.1: the first that is wrong, and of it what comes first.
func TestCheckFirst(t *testing.T) {
	bad := insert(api.Last, 0, el("1"))
	checked(t, []api.Op{remove(ha), bad, {Kind: 9}}, 1, api.ErrName)
	checked(t, []api.Op{remove(ha), {Kind: 9}, bad}, 1, api.ErrUpdate)
	checked(t, []api.Op{rename(ha, "a"), rename(ha, "b"), bad, {Kind: 9}}, 1, api.ErrConflict)
	checked(t, []api.Op{bad, rename(ha, "a"), rename(ha, "b")}, 0, api.ErrName)
	checked(t, []api.Op{replace(ha, el("a")), replace(ha, el("1"))}, 1, api.ErrName)
	checked(t, []api.Op{{Kind: 9, Node: ha, Tree: el("1")}, {Kind: 9, Node: ha, Tree: el("1")}}, 0, api.ErrUpdate)
}

// P17.1: as many edits as there may be, and one more.
func TestCheckLong(t *testing.T) {
	l := make([]api.Op, 0, api.MaxOps+1)
	for i := range api.MaxOps {
		l = append(l, rename(hd(uint64(i), 1), "a"))
	}
	checked(t, l, 0, api.OK)
	order, e := update.Plan(l)
	if e != api.OK || len(order) != api.MaxOps || order[api.MaxOps-1] != api.MaxOps-1 {
		t.Errorf("Plan: %d, %d", len(order), e)
	}
	l[api.MaxOps-1].Node = l[0].Node
	checked(t, l, api.MaxOps-1, api.ErrConflict)
	l[7].Kind = 0
	checked(t, l, 7, api.ErrUpdate)
	l = append(l, api.Op{Kind: 9})
	checked(t, l, 0, api.ErrLong)
	refused(t, abc(t), l, 0, api.ErrLong)
	if order, e := update.Plan(l); len(order) != 0 || e != api.ErrLong {
		t.Errorf("Plan: %d, %d", len(order), e)
	}
	refused(t, abc(t), slices.Repeat(oneEach(), 2000), 0, api.ErrLong)
}

// P17.2: phase by phase, each as they stand.
func TestPlan(t *testing.T) {
	for _, c := range []struct {
		l    []api.Op
		want []int
	}{
		{nil, nil},
		{oneEach(), []int{3, 4, 5, 6, 0, 1, 7, 2}},
		{[]api.Op{drop(ha, "a"), attr(ha, "b", ""), retext(ha, ""), rename(ha, "")}, []int{0, 1, 2, 3}},
		{[]api.Op{remove(ha), remove(hb), remove(ha)}, []int{0, 1, 2}},
		{[]api.Op{remove(ha), replace(ha, el("a")), move(ha, 0, 0), insert(0, 0, el("a")), rename(ha, "")}, []int{4, 3, 2, 1, 0}},
		{[]api.Op{move(ha, 0, 0), insert(0, 0, el("a")), move(hb, 0, 0), insert(0, 0, el("a")), replace(ha, el("a")), rename(ha, ""), replace(hb, el("a")), remove(ha), drop(ha, "")}, []int{5, 8, 1, 3, 0, 2, 4, 6, 7}},
	} {
		order, e := update.Plan(c.l)
		if e != api.OK || !slices.Equal(order, c.want) {
			t.Errorf("Plan: %d, %d; want %d", order, e, c.want)
		}
	}
	for _, l := range [][]api.Op{{{}}, {rename(ha, "a"), rename(ha, "b")}, {insert(0, 0, text("\x00"))}} {
		_, want := update.Check(l)
		if order, e := update.Plan(l); len(order) != 0 || e != want || e == api.OK {
			t.Errorf("Plan: %d, %d; want %d", order, e, want)
		}
	}
}
