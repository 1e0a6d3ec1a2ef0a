package update_test

import (
	"slices"
	"testing"

	"espalier/api"
	"espalier/label"
	"espalier/update"
)

// asByWords holds all four calls against the chapter's words, on the document of a seed: whether the list was made.
func asByWords(t *testing.T, seed uint64, l []api.Op) bool {
	t.Helper()
	d, want := newMaker(seed).doc(), newMaker(seed).doc()
	at, e := checkByWords(l)
	checked(t, l, at, e)
	order, planned := update.Plan(l)
	if planned != e || e != api.OK && len(order) != 0 || e == api.OK && !slices.Equal(order, planByWords(l)) {
		t.Errorf("seed %d: Plan: %d, %d", seed, order, planned)
	}
	put, at, e := applyByWords(want, l)
	tried(t, d, l, put, at, e)
	if e != api.OK {
		refused(t, d, l, at, e)
		goesOn(t, seed, d, newMaker(seed).doc())
		return false
	}
	got, gotAt, gotE := update.Apply(d, l)
	if !slices.Equal(got, put) || gotAt != 0 || gotE != api.OK {
		t.Errorf("seed %d: Apply: %x, %d, %d; want %x", seed, got, gotAt, gotE, put)
	}
	alike(t, "Apply", d, want)
	goesOn(t, seed, d, want)
	return true
}

// goesOn: two documents answer alike whatever else is done to both, the same handles and labels too.
func goesOn(t *testing.T, seed uint64, d, want *label.Doc) {
	t.Helper()
	m := newMaker(seed + 1<<32)
	for range 6 {
		op := m.op(want)
		n, e := world{d, map[api.Handle]bool{}}.make(op)
		wantN, wantE := world{want, map[api.Handle]bool{}}.make(op)
		if n != wantN || e != wantE {
			t.Fatalf("seed %d: later %x, %d; want %x, %d", seed, n, e, wantN, wantE)
		}
	}
	alike(t, "later", d, want)
}

// P17.1 to P17.6: any lists of any documents, by the chapter's words. Most are refused.
func TestAnyLists(t *testing.T) {
	made := 0
	for seed := range uint64(3000) {
		m := newMaker(seed + 1<<40)
		if asByWords(t, seed, m.list(newMaker(seed).doc(), m.IntN(8))) {
			made++
		}
		if t.Failed() {
			t.Fatalf("seed %d", seed)
		}
	}
	if made < 300 {
		t.Errorf("only %d lists were made", made)
	}
}

// P17.3, P17.4, P17.6: lists none of whose edits is refused, and then with one more, that may be.
func TestGoodLists(t *testing.T) {
	edits, nothing := 0, 0
	for seed := range uint64(600) {
		m := newMaker(seed + 1<<41)
		l := m.good(seed, 8)
		if !asByWords(t, seed, l) {
			t.Fatalf("seed %d: refused", seed)
		}
		edits += len(l)
		nothing += doNothing(seed, l)
		i := m.IntN(len(l) + 1)
		asByWords(t, seed, slices.Insert(l, i, m.op(newMaker(seed).doc())))
		if t.Failed() {
			t.Fatalf("seed %d", seed)
		}
	}
	if edits < 3000 || nothing < 200 {
		t.Errorf("%d edits, of which %d did nothing", edits, nothing)
	}
}

// doNothing is how many edits of a list that is made do nothing, since their node went.
func doNothing(seed uint64, l []api.Op) int {
	w := world{newMaker(seed).doc(), map[api.Handle]bool{}}
	n := 0
	for _, i := range planByWords(l) {
		if w.went[l[i].Node] && l[i].Kind != api.OpInsert {
			n++
		}
		w.one(l[i])
	}
	return n
}

// P17.5: behind an error all is as it was, whatever was done ahead of what is refused; and the same list without that edit is made as if nothing had been tried.
func TestAllOrNothing(t *testing.T) {
	for seed := range uint64(300) {
		m := newMaker(seed + 1<<42)
		l := m.good(seed, 8)
		d, want := newMaker(seed).doc(), newMaker(seed).doc()
		for _, bad := range []api.Op{remove(hd(4000, 7)), replace(0, el("n")), rename(hd(4000, 7), "n"), insert(9, 0, el("n")), move(0, api.Last, 0)} {
			i := m.IntN(len(l) + 1)
			refused(t, d, slices.Insert(slices.Clone(l), i, bad), i, errorOf(bad))
		}
		put, _, _ := update.Apply(d, l)
		wantPut, _, _ := update.Apply(want, l)
		if !slices.Equal(put, wantPut) {
			t.Errorf("%x; want %x", put, wantPut)
		}
		alike(t, "behind what was refused", d, want)
		if t.Failed() {
			t.Fatalf("seed %d", seed)
		}
	}
}

// errorOf is why an edit is refused in any document.
func errorOf(op api.Op) api.Errno {
	if op.Kind == api.OpInsert || op.Kind == api.OpReplace {
		return api.ErrArg
	}
	return api.ErrNode
}

// P17.7: two that stand beside one another and are of two phases may change places.
func TestApart(t *testing.T) {
	swaps := 0
	for seed := range uint64(400) {
		m := newMaker(seed + 1<<43)
		l := m.good(seed, 8)
		for i := range max(len(l)-1, 0) {
			if phaseByWords(l[i]) == phaseByWords(l[i+1]) {
				continue
			}
			swaps++
			other := slices.Clone(l)
			other[i], other[i+1] = l[i+1], l[i]
			d, want := newMaker(seed).doc(), newMaker(seed).doc()
			put, _, e := update.Apply(d, other)
			wantPut, _, _ := update.Apply(want, l)
			slices.Sort(put)
			slices.Sort(wantPut)
			if e != api.OK || !slices.Equal(put, wantPut) {
				t.Fatalf("seed %d: %x, %d; want %x", seed, put, e, wantPut)
			}
			alike(t, "places changed", d, want)
		}
	}
	if swaps < 1000 {
		t.Errorf("only %d pairs changed places", swaps)
	}
}

// P17.7: of two that change places the same one is refused, or neither.
func TestApartRefused(t *testing.T) {
	swaps := 0
	for seed := range uint64(2000) {
		m := newMaker(seed + 1<<44)
		d := newMaker(seed).doc()
		l := m.list(d, 2+m.IntN(4))
		_, at, e := update.Trial(d, l)
		i := m.IntN(len(l) - 1)
		_, wrong := update.Check(l)
		if e == api.OK || wrong != api.OK || phaseByWords(l[i]) == phaseByWords(l[i+1]) {
			continue
		}
		swaps++
		l[i], l[i+1] = l[i+1], l[i]
		switch at {
		case i:
			at = i + 1
		case i + 1:
			at = i
		}
		refused(t, d, l, at, e)
		if t.Failed() {
			t.Fatalf("seed %d", seed)
		}
	}
	if swaps < 300 {
		t.Errorf("only %d pairs changed places", swaps)
	}
}
