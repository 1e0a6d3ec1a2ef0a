package walk_test

import (
	"math"
	"slices"
	"testing"

	"espalier/api"
	"espalier/tree"
	"espalier/walk"
)

// P10.1: the chapter's example, and every axis of every node of it.
func TestExample(t *testing.T) {
	d, all := docOf(t, el("a", el("b"), el("c", el("d")), el("e")))
	want := map[int][5]string{ // by axes; of a, b, c, d, e
		api.ChildAxis:            {"bce", "", "d", "", ""},
		api.DescendantAxis:       {"bcde", "", "d", "", ""},
		api.DescendantOrSelfAxis: {"abcde", "b", "cd", "d", "e"},
		api.ParentAxis:           {"", "a", "a", "c", "a"},
		api.AncestorAxis:         {"", "a", "a", "ca", "a"},
		api.AncestorOrSelfAxis:   {"a", "ba", "ca", "dca", "ea"},
		api.FollowingAxis:        {"", "cde", "e", "e", ""},
		api.PrecedingAxis:        {"", "", "b", "b", "dcb"},
		api.FollowingSiblingAxis: {"", "ce", "e", "", ""},
		api.PrecedingSiblingAxis: {"", "", "b", "", "cb"},
		api.SelfAxis:             {"a", "b", "c", "d", "e"},
	}
	for axis := 1; axis <= 11; axis++ {
		for i, n := range all {
			if got := namesOf(d, nodesOf(t, d, axis, n)); got != want[axis][i] {
				t.Errorf("axis %d of %s: %s; want %s", axis, namesOf(d, all[i:i+1]), got, want[axis][i])
			}
		}
	}
}

// P10.1: roots are one another's siblings, texts lie among the elements, and trees ahead and behind are gone through whole.
func TestSeveralRoots(t *testing.T) {
	d, all := docOf(t, el("a", el("b", words("1"))), words("2"), el("c", el("d", el("e"), words("3")), el("f")), words("4"), el("g", words("5")))
	at := map[string]api.Handle{}
	for _, n := range all {
		at[namesOf(d, []api.Handle{n})] = n
	}
	for _, x := range []struct {
		axis    int
		n, want string
	}{
		{api.FollowingAxis, "a", "2cde3f4g5"}, {api.FollowingAxis, "1", "2cde3f4g5"}, {api.FollowingAxis, "2", "cde3f4g5"},
		{api.FollowingAxis, "e", "3f4g5"}, {api.FollowingAxis, "g", ""}, {api.FollowingAxis, "5", ""}, {api.FollowingAxis, "c", "4g5"},
		{api.PrecedingAxis, "a", ""}, {api.PrecedingAxis, "1", ""}, {api.PrecedingAxis, "2", "1ba"}, {api.PrecedingAxis, "c", "21ba"},
		{api.PrecedingAxis, "3", "e21ba"}, {api.PrecedingAxis, "f", "3ed21ba"}, {api.PrecedingAxis, "5", "4f3edc21ba"},
		{api.FollowingSiblingAxis, "a", "2c4g"}, {api.FollowingSiblingAxis, "c", "4g"}, {api.FollowingSiblingAxis, "g", ""}, {api.FollowingSiblingAxis, "5", ""},
		{api.PrecedingSiblingAxis, "g", "4c2a"}, {api.PrecedingSiblingAxis, "c", "2a"}, {api.PrecedingSiblingAxis, "a", ""}, {api.PrecedingSiblingAxis, "3", "e"},
		{api.ChildAxis, "2", ""}, {api.DescendantAxis, "2", ""}, {api.ParentAxis, "c", ""}, {api.AncestorAxis, "3", "dc"},
	} {
		if got := namesOf(d, nodesOf(t, d, x.axis, at[x.n])); got != x.want {
			t.Errorf("axis %d of %s: %s; want %s", x.axis, x.n, got, x.want)
		}
	}
}

// P10.1: what can't be: ErrArg is told ahead of ErrNode, and there is no iterator.
func TestAxisWrong(t *testing.T) {
	d, all := docOf(t, el("a", el("b")))
	gone := dead(t, d)
	wrong := func(d *tree.Doc, axis int, n api.Handle, why api.Errno) {
		t.Helper()
		if s, e := walk.Axis(d, axis, n); s != nil || e != why {
			t.Errorf("Axis(%t, %d, %x): nil %t, %d; want %d", d != nil, axis, n, s == nil, e, why)
		}
	}
	for _, axis := range []int{math.MinInt, -11, -1, 0, 12, 13, 1<<32 + 1, math.MaxInt} {
		wrong(d, axis, all[0], api.ErrArg)
		wrong(d, axis, gone, api.ErrArg)
		wrong(nil, axis, 0, api.ErrArg)
	}
	for axis := 1; axis <= 11; axis++ {
		wrong(nil, axis, all[0], api.ErrArg)
		wrong(nil, axis, 0, api.ErrArg)
		for _, n := range []api.Handle{0, 1, gone, all[0] - 1, all[0] + 1<<32, all[1] + 1, math.MaxUint64} {
			wrong(d, axis, n, api.ErrNode)
			wrong(&tree.Doc{}, axis, n, api.ErrNode)
		}
	}
}

// P10.1: All tells all nodes with the numbers from 0; nothing of no document.
func TestAll(t *testing.T) {
	d, all := docOf(t, el("a", words("1"), el("b", el("c"))), words("2"), el("d"))
	numbers, nodes := apart(walk.All(d))
	equal(t, "numbers", numbers, upTo(6))
	equal(t, "nodes", nodes, all)
	for _, x := range []*tree.Doc{nil, {}} {
		s := walk.All(x)
		if s == nil {
			t.Fatal("All is nil")
		}
		for i, n := range s {
			t.Error(i, n)
		}
	}
}

// P10.1: Nearest of nodes that are one, in one another, beside one another, and of two trees.
func TestNearest(t *testing.T) {
	d, all := docOf(t, el("a", el("b", el("c"), words("1")), el("d")), el("e", words("2")))
	at := map[string]api.Handle{"": 0}
	for _, n := range all {
		at[namesOf(d, []api.Handle{n})] = n
	}
	for _, x := range []struct{ a, b, want string }{
		{"a", "a", "a"}, {"1", "1", "1"}, {"c", "1", "b"}, {"c", "d", "a"}, {"1", "d", "a"}, {"c", "b", "b"}, {"c", "a", "a"}, {"b", "d", "a"},
		{"a", "e", ""}, {"c", "2", ""}, {"a", "2", ""}, {"e", "2", "e"},
	} {
		for _, y := range [][2]string{{x.a, x.b}, {x.b, x.a}} {
			n, ok, e := walk.Nearest(d, at[y[0]], at[y[1]])
			if n != at[x.want] || ok != (x.want != "") || e != api.OK {
				t.Errorf("Nearest of %v: %x, %t, %d; want %q", y, n, ok, e, x.want)
			}
		}
	}
}

func TestNearestWrong(t *testing.T) {
	d, all := docOf(t, el("a", el("b")))
	gone := dead(t, d)
	wrong := func(d *tree.Doc, a, b api.Handle, why api.Errno) {
		t.Helper()
		for range 2 {
			if n, ok, e := walk.Nearest(d, a, b); n != 0 || ok || e != why {
				t.Errorf("Nearest(%t, %x, %x): %x, %t, %d; want %d", d != nil, a, b, n, ok, e, why)
			}
			a, b = b, a
		}
	}
	for _, n := range []api.Handle{0, 1, gone, all[0] + 1<<32, math.MaxUint64} {
		wrong(d, all[0], n, api.ErrNode)
		wrong(d, all[1], n, api.ErrNode)
		wrong(d, n, n, api.ErrNode)
		wrong(&tree.Doc{}, n, n, api.ErrNode)
		wrong(nil, all[0], n, api.ErrArg)
		wrong(nil, n, n, api.ErrArg)
	}
	wrong(nil, all[0], all[1], api.ErrArg)
}

// agree holds all that is told of a document against the places of its nodes, and the promises that go over several axes against what is told.
func agree(t *testing.T, d *tree.Doc) {
	t.Helper()
	of := places(d)
	numbers, all := apart(walk.All(d))
	equal(t, "numbers", numbers, upTo(len(of)))
	if !slices.IsSortedFunc(all, func(a, b api.Handle) int { return of[a].begin - of[b].begin }) {
		t.Error("All is in no order:", all)
	}
	var lists [12]map[api.Handle][]api.Handle
	for axis := 1; axis <= 11; axis++ {
		lists[axis] = map[api.Handle][]api.Handle{}
		for n := range of {
			l := nodesOf(t, d, axis, n)
			if want := told(of, axis, n); !slices.Equal(l, want) {
				t.Fatalf("axis %d of %x: %x; want %x", axis, n, l, want)
			}
			lists[axis][n] = l
		}
	}
	wholeOnce(t, all, lists)
	turnedAbout(t, all, lists)
	nearest(t, d, of)
}

// wholeOnce is P10.4.
func wholeOnce(t *testing.T, all []api.Handle, lists [12]map[api.Handle][]api.Handle) {
	t.Helper()
	for _, n := range all {
		var l []api.Handle
		for _, axis := range []int{api.SelfAxis, api.AncestorAxis, api.DescendantAxis, api.PrecedingAxis, api.FollowingAxis} {
			l = append(l, lists[axis][n]...)
		}
		sorted := slices.Sorted(slices.Values(all))
		slices.Sort(l)
		if !slices.Equal(l, sorted) {
			t.Fatalf("together, of %x: %x; want %x", n, l, sorted)
		}
	}
}

// turnedAbout is P10.5.
func turnedAbout(t *testing.T, all []api.Handle, lists [12]map[api.Handle][]api.Handle) {
	t.Helper()
	for _, x := range [][2]int{
		{api.ChildAxis, api.ParentAxis}, {api.DescendantAxis, api.AncestorAxis},
		{api.FollowingAxis, api.PrecedingAxis}, {api.FollowingSiblingAxis, api.PrecedingSiblingAxis},
	} {
		for _, a := range all {
			for _, b := range all {
				if slices.Contains(lists[x[0]][a], b) != slices.Contains(lists[x[1]][b], a) {
					t.Fatalf("axes %d and %d of %x, %x", x[0], x[1], a, b)
				}
			}
		}
	}
}

// nearest holds Nearest of all pairs against the places: the one that begins last of those that hold both.
func nearest(t *testing.T, d *tree.Doc, of map[api.Handle]place) {
	t.Helper()
	for a := range of {
		for b := range of {
			var want api.Handle
			for n := range of {
				if isOn(of, 6, n, a) && isOn(of, 6, n, b) && of[n].begin > of[want].begin {
					want = n
				}
			}
			if n, ok, e := walk.Nearest(d, a, b); n != want || ok != (want != 0) || e != api.OK {
				t.Fatalf("Nearest of %x, %x: %x, %t, %d; want %x", a, b, n, ok, e, want)
			}
		}
	}
}

// P10.1, P10.4, P10.5: behind any edits.
func TestBehindEdits(t *testing.T) {
	r := dice(1)
	most := 0
	for range 8 {
		d := &tree.Doc{}
		for range 40 {
			edit(r, d)
			agree(t, d)
			most = max(most, d.Len())
		}
	}
	if most < 20 {
		t.Error("too small:", most)
	}
}

// P10.1: in full documents: as wide as can be, as deep, and both.
func TestFull(t *testing.T) {
	deep := el("a")
	for range api.MaxDepth - 1 {
		deep = el("a", deep)
	}
	wide := el("a", slices.Repeat([]api.Tree{el("b")}, api.MaxNodes-1)...)
	both := slices.Repeat([]api.Tree{deep}, api.MaxNodes/api.MaxDepth)
	r := dice(2)
	for i, roots := range [][]api.Tree{{wide}, {deep}, both, slices.Repeat([]api.Tree{words("")}, api.MaxNodes)} {
		d, all := docOf(t, roots...)
		of := places(d)
		some := []api.Handle{all[0], all[1], all[len(all)-1]}
		for range 5 {
			some = append(some, all[r.IntN(len(all))])
		}
		for _, n := range some {
			for axis := 1; axis <= 11; axis++ {
				if got, want := nodesOf(t, d, axis, n), told(of, axis, n); !slices.Equal(got, want) {
					t.Fatalf("document %d, axis %d of %x: %d; want %d", i, axis, n, len(got), len(want))
				}
			}
		}
		_, got := apart(walk.All(d))
		equal(t, "All", got, all)
	}
}
