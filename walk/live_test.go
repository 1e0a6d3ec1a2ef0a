package walk_test

import (
	"iter"
	"slices"
	"testing"

	"espalier/api"
	"espalier/tree"
	"espalier/walk"
)

// goings is every axis of a node, and at 0 all nodes.
func goings(t *testing.T, d *tree.Doc, n api.Handle) []iter.Seq[api.Handle] {
	t.Helper()
	l := []iter.Seq[api.Handle]{func(yield func(api.Handle) bool) {
		for _, x := range walk.All(d) {
			if !yield(x) {
				return
			}
		}
	}}
	for axis := 1; axis <= 11; axis++ {
		l = append(l, axisOf(t, d, axis, n))
	}
	return l
}

// wanted is what each of goings tells of the document as it is now; if n is none any more nothing, but of all.
func wanted(d *tree.Doc, n api.Handle) [][]api.Handle {
	of := places(d)
	all, _ := d.All(0)
	l := [][]api.Handle{all}
	for axis := 1; axis <= 11; axis++ {
		if _, live := of[n]; !live {
			l = append(l, nil)
			continue
		}
		l = append(l, told(of, axis, n))
	}
	return l
}

// 10.2: an iterator goes through the nodes as they are when it begins, not as they were when it was made, and so each time.
func TestAsItBegins(t *testing.T) {
	r := dice(3)
	lost := 0
	for range 30 {
		d, all := docOf(t, el("a", anyTree(r, 3), el("b", anyTree(r, 3)), anyTree(r, 3)), anyTree(r, 3))
		n := all[r.IntN(len(all))]
		ways := goings(t, d, n)
		for range 20 {
			for i, want := range wanted(d, n) {
				equal(t, "going", slices.Collect(ways[i]), want)
			}
			edit(r, d)
		}
		if _, e := d.Get(n); e != api.OK {
			lost++
		}
	}
	if lost == 0 || lost == 30 {
		t.Error("nodes that were lost:", lost)
	}
}

// 10.2: what is done to the document in the midst of it changes nothing in what it tells; the next time it does.
func TestEditedInTheMidst(t *testing.T) {
	r := dice(4)
	for range 60 {
		for i := range 12 {
			d, all := docOf(t, el("a", anyTree(r, 3), el("b", el("c"), anyTree(r, 3), words("1")), anyTree(r, 3)), el("d", anyTree(r, 2)))
			n := all[r.IntN(len(all))]
			way, want := goings(t, d, n)[i], wanted(d, n)[i]
			var got []api.Handle
			for x := range way {
				got = append(got, x)
				edit(r, d)
				edit(r, d)
			}
			equal(t, "in the midst", got, want)
			equal(t, "thereafter", slices.Collect(way), wanted(d, n)[i])
		}
	}
}

// 10.2: the node itself, and all else, may go while its axes are gone through.
func TestAllGoes(t *testing.T) {
	for i := range 12 {
		d, all := docOf(t, el("a", el("b"), el("c", el("d"), el("e", el("f")), el("g")), el("h")))
		n := all[4]
		way, want := goings(t, d, n)[i], wanted(d, n)[i]
		var got []api.Handle
		for x := range way {
			got = append(got, x)
			d.Delete(all[0])
		}
		equal(t, "as all goes", got, want)
		if d.Len() != 0 {
			t.Error(i, d.Len())
		}
		equal(t, "thereafter", slices.Collect(way), nil)
	}
}

// 10.2: a node that went is none any more, though another one has its index.
func TestIndexAgain(t *testing.T) {
	d, all := docOf(t, el("a", el("b"), el("c"), el("d")))
	ways := goings(t, d, all[2])
	d.Delete(all[2])
	again, _ := d.Insert(api.After, all[1], el("c", el("e")))
	if again == all[2] || uint32(again) != uint32(all[2]) {
		t.Fatal(again)
	}
	for axis := 1; axis <= 11; axis++ {
		equal(t, "a node that went", slices.Collect(ways[axis]), nil)
	}
}

// 10.2: one is gone through while another one, or the same one, is.
func TestWithinOneAnother(t *testing.T) {
	d, all := docOf(t, el("a", el("b"), el("c", el("d"), el("e")), el("f")))
	for i, outer := range goings(t, d, all[3]) {
		want := wanted(d, all[3])
		var got []api.Handle
		for x := range outer {
			got = append(got, x)
			for j, inner := range goings(t, d, all[3]) {
				equal(t, "inner", slices.Collect(inner), want[j])
			}
			equal(t, "the same", slices.Collect(outer), want[i])
		}
		equal(t, "outer", got, want[i])
	}
}

// 10.2: ranges that overlap, and begin between edits, each tell what was there as they began.
func TestOverlap(t *testing.T) {
	r := dice(5)
	d, _ := docOf(t, el("a", anyTree(r, 3), anyTree(r, 3)))
	type open struct {
		next func() (api.Handle, bool)
		stop func()
		want []api.Handle
	}
	var ranges []open
	for range 2000 {
		edit(r, d)
		if all, _ := d.All(0); len(all) > 0 && r.IntN(3) == 0 {
			n, i := all[r.IntN(len(all))], r.IntN(12)
			o := open{want: wanted(d, n)[i]}
			o.next, o.stop = iter.Pull(goings(t, d, n)[i])
			ranges = append(ranges, o)
		}
		for i := len(ranges) - 1; i >= 0; i-- {
			o := &ranges[i]
			x, ok := o.next()
			if ok != (len(o.want) > 0) || ok && x != o.want[0] {
				t.Fatal(x, ok, o.want)
			}
			if !ok || r.IntN(9) == 0 {
				o.stop()
				ranges = slices.Delete(ranges, i, i+1)
				continue
			}
			o.want = o.want[1:]
		}
	}
	for _, o := range ranges {
		o.stop()
	}
}

// 10.2, P10.6: who has enough is told no more, and may begin again.
func TestAxisStops(t *testing.T) {
	d, all := docOf(t, el("a", el("b"), el("c", el("d"), el("e", el("f"), el("g")), el("h")), el("i")))
	for i, way := range goings(t, d, all[4]) {
		want := wanted(d, all[4])[i]
		for most := 1; most <= len(want)+1; most++ {
			equal(t, "stopped", first(t, way, most), want[:min(most, len(want))])
			equal(t, "gone through again", slices.Collect(way), want)
		}
	}
	n := 0
	walk.All(d)(func(int, api.Handle) bool {
		n++
		return false
	})
	if n != 1 {
		t.Error("All went on:", n)
	}
}

// 10.2: a panic where it is gone through goes through, and the iterator and the document are of use.
func TestBodyPanics(t *testing.T) {
	d, all := docOf(t, el("a", el("b"), el("c", el("d")), el("e")))
	for i, way := range goings(t, d, all[2]) {
		want := wanted(d, all[2])[i]
		what := panics(func() {
			for range way {
				panic("mine")
			}
		})
		if len(want) > 0 && what != "mine" {
			t.Error(i, what)
		}
		equal(t, "behind a panic", slices.Collect(way), want)
	}
	if e := d.Delete(all[2]); e != api.OK {
		t.Error(e)
	}
}
