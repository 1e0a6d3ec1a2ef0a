package twig_test

import (
	"math/rand/v2"
	"slices"
	"testing"

	"espalier/api"
	"espalier/twig"
)

// anyAsked is a pattern and its lists, out of any forest.
func anyAsked(r *rand.Rand) (api.Twig, [][]api.Placed) {
	x := anyTwig(r, 1+r.IntN(6))
	return x, anyLists(r, x, forest(r, 1+r.IntN(20), 1+r.IntN(5)))
}

// P12.6: a list that is cut down to what Used tells of it leaves the matches as they are; without one of these there are fewer.
func TestNoMore(t *testing.T) {
	r := dice(20)
	cutOff, fewer := 0, 0
	for range 1500 {
		x, lists := anyAsked(r)
		found, e := twig.Find(x, lists, 16384)
		if e == api.ErrLong {
			continue
		}
		used, _ := twig.Used(x, lists)
		less := cloned(lists)
		for i := range less {
			less[i] = slices.DeleteFunc(less[i], func(n api.Placed) bool { return !slices.Contains(used[i], n.Node) })
			cutOff += len(lists[i]) - len(less[i])
			one := slices.Clone(lists)
			one[i] = less[i]
			if l, e := twig.Find(x, one, 16384); e != api.OK || !same(l, found) {
				t.Fatal(x, lists, l, e)
			}
		}
		if l, e := twig.Find(x, less, 16384); e != api.OK || !same(l, found) {
			t.Fatal(x, lists, l, e)
		}
		for i := range less {
			for k := range less[i] {
				one := cloned(less)
				one[i] = slices.Delete(one[i], k, k+1)
				if n, e := twig.Count(x, one); e != api.OK || n >= uint64(len(found)) {
					t.Fatal(x, one, n, e)
				}
				fewer++
			}
		}
	}
	if cutOff < 1000 || fewer < 1000 {
		t.Error(cutOff, fewer)
	}
}

// P12.7: Tops is those that are tops of all branches.
func TestBranches(t *testing.T) {
	r := dice(21)
	seen := [2]int{}
	for range 3000 {
		x, lists := anyAsked(r)
		tops, e := twig.Tops(x, lists)
		if e != api.OK {
			t.Fatal(e)
		}
		var want []api.Handle
		for _, n := range lists[0] {
			want = append(want, n.Node)
		}
		first := 1
		for _, k := range x.Kids {
			n := twig.Size(k)
			branch, e := twig.Tops(api.Twig{Kids: []api.Twig{k}}, append(lists[:1:1], lists[first:first+n]...))
			if e != api.OK {
				t.Fatal(e)
			}
			want = slices.DeleteFunc(want, func(n api.Handle) bool { return !slices.Contains(branch, n) })
			first += n
		}
		if !slices.Equal(tops, want) {
			t.Fatal(x, lists, tops, want)
		}
		if len(x.Kids) > 1 {
			seen[min(1, len(want))]++
		}
	}
	if seen[0] < 100 || seen[1] < 100 {
		t.Error(seen)
	}
}

// turned is a pattern with all Kids in any order, and the numbers that its nodes had, from a first one on.
func turned(r *rand.Rand, t api.Twig, first int) (api.Twig, []int) {
	var starts []int
	next := first + 1
	for _, k := range t.Kids {
		starts = append(starts, next)
		next += twig.Size(k)
	}
	out, was := api.Twig{Name: t.Name, Direct: t.Direct}, []int{first}
	for _, i := range r.Perm(len(t.Kids)) {
		k, l := turned(r, t.Kids[i], starts[i])
		out.Kids = append(out.Kids, k)
		was = append(was, l...)
	}
	return out, was
}

// P12.8: Kids turned about: the same matches, with their nodes turned about alike.
func TestTurned(t *testing.T) {
	r := dice(22)
	other := 0
	for range 2500 {
		x, lists := anyAsked(r)
		y, was := turned(r, x, 0)
		var turnedLists [][]api.Placed
		for _, i := range was {
			turnedLists = append(turnedLists, lists[i])
		}
		got, e := twig.Find(y, turnedLists, 16384)
		found, why := twig.Find(x, lists, 16384)
		if e != why {
			t.Fatal(e, why)
		}
		var want [][]api.Handle
		for _, m := range found {
			var l []api.Handle
			for _, i := range was {
				l = append(l, m[i])
			}
			want = append(want, l)
		}
		if !same(got, want) {
			other++
		}
		slices.SortFunc(want, slices.Compare) // handles rise as the nodes begin
		if !same(got, want) {
			t.Fatal(x, y, lists, got, want)
		}
		a, _ := twig.Count(x, lists)
		if b, _ := twig.Count(y, turnedLists); a != b {
			t.Fatal(a, b)
		}
	}
	if other < 50 {
		t.Error(other)
	}
}

// P12.2: in order, by the first node, then by the second one, and so on; none twice.
func TestInOrder(t *testing.T) {
	r := dice(23)
	for range 2000 {
		x, lists := anyAsked(r)
		found, _ := twig.Find(x, lists, 16384)
		for i := 1; i < len(found); i++ {
			if slices.Compare(found[i-1], found[i]) >= 0 {
				t.Fatal(x, lists, found)
			}
		}
	}
}
