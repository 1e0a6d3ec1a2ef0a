package twig_test

import (
	"strings"
	"testing"

	"espalier/api"
	"espalier/twig"
)

// deep is a pattern of n nodes, one under the other.
func deep(n int) api.Twig {
	t := api.Twig{Name: "z"}
	for range n - 1 {
		t = api.Twig{Name: "d", Kids: []api.Twig{t}}
	}
	return t
}

// wide is a pattern of n nodes, all under the first one.
func wide(n int) api.Twig { return api.Twig{Name: "w", Kids: make([]api.Twig, n-1)} }

// refusedEverywhere asks all calls of a pattern that can't be, with whatever else is wrong.
func refusedEverywhere(t *testing.T, x api.Twig, why api.Errno) {
	t.Helper()
	l := row(3, 1, 0)
	bad := []api.Placed{{}}
	for _, lists := range [][][]api.Placed{nil, {l}, {bad}, times(16, l), times(17, l), times(17, bad), {row(4097, 1, 0)}} {
		for _, most := range []int{-1, 0, 9} {
			if m, e := twig.Find(x, lists, most); m != nil || e != why {
				t.Errorf("Find: %v, %d; want %d", m, e, why)
			}
			if m, e := twig.Paths(x, lists, most); m != nil || e != why {
				t.Errorf("Paths: %v, %d; want %d", m, e, why)
			}
		}
		if n, e := twig.Count(x, lists); n != 0 || e != why {
			t.Errorf("Count: %d, %d; want %d", n, e, why)
		}
		if l, e := twig.Tops(x, lists); l != nil || e != why {
			t.Errorf("Tops: %v, %d; want %d", l, e, why)
		}
		if l, e := twig.Used(x, lists); l != nil || e != why {
			t.Errorf("Used: %v, %d; want %d", l, e, why)
		}
	}
	name := func(api.Handle) string { panic("asked") }
	for _, l := range [][]api.Placed{l, bad, row(4097, 1, 0)} {
		if out, e := twig.Lists(x, l, name); out != nil || e != why {
			t.Errorf("Lists: %v, %d; want %d", out, e, why)
		}
		if out, e := twig.Lists(x, l, nil); out != nil || e != why {
			t.Errorf("Lists without name: %v, %d; want %d", out, e, why)
		}
	}
}

// P12.1: which patterns can be, and how many nodes they have. P12.2, P12.3, P12.4: Check's error is the first one.
func TestCheck(t *testing.T) {
	ring := make([]api.Twig, 2)
	ring[0].Kids, ring[1].Kids = ring, ring
	mixed := api.Twig{Kids: []api.Twig{deep(7), wide(7), {Name: "x"}}}
	badInFirst := deep(16)
	badInFirst.Name = "1"
	badIn17 := deep(17)
	badIn17.Name = "1"
	for i, x := range []struct {
		t    api.Twig
		size int
		why  api.Errno
	}{
		{api.Twig{}, 1, api.OK},
		{api.Twig{Direct: true}, 1, api.OK},
		{api.Twig{Name: "a"}, 1, api.OK},
		{api.Twig{Name: "_a-9.Z"}, 1, api.OK},
		{api.Twig{Kids: []api.Twig{}}, 1, api.OK},
		{api.Twig{Name: "1"}, 1, api.ErrName},
		{api.Twig{Name: " "}, 1, api.ErrName},
		{api.Twig{Name: "a b"}, 1, api.ErrName},
		{api.Twig{Name: "é"}, 1, api.ErrName},
		{api.Twig{Name: "*"}, 1, api.ErrName},
		{api.Twig{Name: "a\x00"}, 1, api.ErrName},
		{api.Twig{Name: strings.Repeat("n", 32)}, 1, api.OK},
		{api.Twig{Name: strings.Repeat("n", 33)}, 1, api.ErrName},
		{on(on(), under()), 3, api.OK},
		{on(on(), named("-", under())), 3, api.ErrName},
		{on(on(named("a", on(named(".", on()))))), 4, api.ErrName},
		{deep(15), 15, api.OK},
		{deep(16), 16, api.OK},
		{deep(17), 17, api.ErrTwig},
		{deep(18), 17, api.ErrTwig},
		{wide(15), 15, api.OK},
		{wide(16), 16, api.OK},
		{wide(17), 17, api.ErrTwig},
		{wide(18), 17, api.ErrTwig},
		{mixed, 16, api.OK},
		{on(mixed), 17, api.ErrTwig},
		{on(mixed, on()), 17, api.ErrTwig},
		{on(wide(8), wide(8)), 17, api.ErrTwig},
		{on(wide(8), wide(7)), 16, api.OK},
		{badInFirst, 16, api.ErrName},
		{badIn17, 17, api.ErrTwig},
		{named("1", wide(17)), 17, api.ErrTwig},
		{deep(1 << 16), 17, api.ErrTwig},
		{wide(1 << 20), 17, api.ErrTwig},
		{on(wide(1<<20), on()), 17, api.ErrTwig},
		{ring[0], 17, api.ErrTwig},
	} {
		if e := twig.Check(x.t); e != x.why {
			t.Errorf("%d: Check %d; want %d", i, e, x.why)
		}
		if n := twig.Size(x.t); n != x.size {
			t.Errorf("%d: Size %d; want %d", i, n, x.size)
		}
		if x.why != api.OK {
			refusedEverywhere(t, x.t, x.why)
		}
	}
}

// P12.1: of any pattern its nodes are counted one by one; a name that can't be is found at each of them.
func TestCheckAny(t *testing.T) {
	r := dice(1)
	for range 2000 {
		n := 1 + r.IntN(20)
		x := anyTwig(r, n)
		want := api.OK
		if n > 16 {
			want = api.ErrTwig
		}
		if e := twig.Check(x); e != want || twig.Size(x) != min(n, 17) {
			t.Fatal(x, e, twig.Size(x))
		}
		at := r.IntN(n)
		if want == api.OK {
			want = api.ErrName
		}
		if e := twig.Check(spoilt(x, &at)); e != want {
			t.Fatal(x, e)
		}
	}
}

// spoilt is a pattern with a name that can't be at one of its nodes.
func spoilt(t api.Twig, at *int) api.Twig {
	t.Name = "a"
	if *at == 0 {
		t.Name = "a!"
	}
	*at--
	kids := t.Kids
	t.Kids = nil
	for _, k := range kids {
		t.Kids = append(t.Kids, spoilt(k, at))
	}
	return t
}
