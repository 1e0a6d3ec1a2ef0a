package markup_test

import (
	"math"
	"strings"
	"testing"

	"espalier/api"
	"espalier/markup"
)

// P4.4
func TestWhere(t *testing.T) {
	for _, s := range []string{"", "a", "\n", "ab\nc", "\n\n", "a\r\nb\rc\n", "é\n€\n", "\x00\n\xff", strings.Repeat("x\n\n", 50), strings.Repeat("x", api.MaxBytes+1)} {
		line, column := 1, 1
		for at := range len(s) + 1 {
			if at > 0 {
				column++
				if s[at-1] == '\n' {
					line, column = line+1, 1
				}
			}
			if at > 1000 && at < api.MaxBytes {
				continue
			}
			if l, c, e := markup.Where(s, at); l != line || c != column || e != api.OK {
				t.Fatalf("Where(%q, %d): %d, %d, %d; want %d, %d", brief(s), at, l, c, e, line, column)
			}
		}
		for _, at := range []int{-1, len(s) + 1, math.MinInt, math.MaxInt, -len(s) - 1} {
			if l, c, e := markup.Where(s, at); l != 0 || c != 0 || e != api.ErrArg {
				t.Errorf("Where(%q, %d): %d, %d, %d", brief(s), at, l, c, e)
			}
		}
	}
}

// P4.4: forests that are the same, each with all, and no two of different ones.
func TestSame(t *testing.T) {
	groups := [][][]api.Tree{
		{nil, forest()},
		{forest(text("")), forest(api.Tree{Kind: api.Text, Name: "n", Attrs: attrs(2), Kids: forest(el("k"))})},
		{forest(text("a")), forest(api.Tree{Kind: api.Text, Text: "a", Name: "b"})},
		{forest(text("a"), text("b"))},
		{forest(text("b"), text("a"))},
		{forest(text("ab"))},
		{forest(text("a"), text(""))},
		{forest(text("\x00")), forest(text("\x00"))},
		{forest(text("\xff"))},
		{forest(el("a")), forest(api.Tree{Kind: api.Element, Name: "a", Text: "t", Attrs: []api.Attr{}, Kids: forest()})},
		{forest(el("b"))},
		{forest(el("")), forest(api.Tree{Kind: api.Element, Text: "t"})},
		{forest(el("a"), el("a"))},
		{forest(el("a", el("a")))},
		{forest(el("a", text("")))},
		{forest(el("a", text("a"))), forest(api.Tree{Kind: api.Element, Name: "a", Text: "t", Kids: forest(api.Tree{Kind: api.Text, Text: "a", Name: "n"})})},
		{forest(el("a", text("b")))},
		{forest(el("a", text("a"), text("b")))},
		{forest(el("a", el("b", el("c"), text("x"))))},
		{forest(el("a", el("b", el("c"), text("y"))))},
		{forest(el("a", el("b", el("d"), text("x"))))},
		{forest(el("a", el("b", el("c")), text("x")))},
		{forest(with(el("a"), at("b", "1"))), forest(with(el("a"), at("b", "1")))},
		{forest(with(el("a"), at("b", "2")))},
		{forest(with(el("a"), at("c", "1")))},
		{forest(with(el("a"), at("b", "1"), at("c", "1")))},
		{forest(with(el("a"), at("c", "1"), at("b", "1")))},
		{forest(with(el("a"), at("b", "1"), at("b", "1")))},
		{forest(with(el("a"), attrs(40)...)), forest(with(el("a"), attrs(40)...))},
		{forest(api.Tree{}), forest(api.Tree{Name: "n", Text: "t", Attrs: attrs(1), Kids: forest(el("k"))})},
		{forest(api.Tree{Kind: bad}), forest(api.Tree{Kind: bad, Name: "n", Text: "t", Attrs: attrs(1), Kids: forest(el("k"))})},
		{forest(api.Tree{Kind: -1})},
		{forest(api.Tree{Kind: 3, Name: "a"})},
		{forest(el("a", api.Tree{Kind: bad}))},
	}
	for i, x := range groups {
		for j, y := range groups {
			for _, a := range x {
				for _, b := range y {
					if got := markup.Same(a, b); got != (i == j) {
						t.Errorf("Same(%v, %v): %v", a, b, got)
					}
				}
			}
		}
	}
}

// P4.4: one thing changed anywhere is told.
func TestSameTellsEveryChange(t *testing.T) {
	m := newMaker(7)
	for range 300 {
		f := m.forest(4)
		if !markup.Same(f, copyOf(f)) {
			t.Fatalf("Same(%v, itself): false", f)
		}
		g := copyOf(f)
		changes(&g, func() {
			if markup.Same(f, g) || markup.Same(g, f) {
				t.Fatalf("Same(%v, %v): true", f, g)
			}
		})
	}
}

// changes makes every change of one thing in a forest, one by one, and takes each back.
func changes(l *[]api.Tree, look func()) {
	was := *l
	*l = append(copyOf(was), text(""))
	look()
	if len(was) > 0 {
		*l = was[1:]
		look()
	}
	*l = was
	for i := range was {
		x := &was[i]
		old := *x
		x.Kind = 3 - x.Kind
		look()
		*x = old
		if x.Kind == api.Text {
			x.Text += "x"
			look()
			*x = old
			continue
		}
		x.Name += "x"
		look()
		*x = old
		x.Attrs = append(append([]api.Attr(nil), old.Attrs...), at("zz", ""))
		look()
		for k := range old.Attrs {
			x.Attrs = append([]api.Attr(nil), old.Attrs...)
			x.Attrs[k].Value += "x"
			look()
			x.Attrs[k] = at("zz", old.Attrs[k].Value)
			look()
		}
		*x = old
		changes(&x.Kids, look)
	}
}

// P4.4: whatever they hold: also what is far too deep, or far too much.
func TestSameBeyondLimits(t *testing.T) {
	const deep = 1 << 16
	a, b, c := chain(deep, text("x")), chain(deep, text("x")), chain(deep, text("y"))
	if !markup.Same(forest(a), forest(b)) || markup.Same(forest(a), forest(c)) {
		t.Error("deep ones")
	}
	w, v := many(10*api.MaxNodes, el("a")), many(10*api.MaxNodes, el("a"))
	if !markup.Same(w, v) {
		t.Error("wide ones")
	}
	v[len(v)-1].Name = "b"
	if markup.Same(w, v) {
		t.Error("wide ones, the last one another")
	}
}

// Every call ends: also of trees that hold themselves.
func TestSameEnds(t *testing.T) {
	loop := make([]api.Tree, 1)
	loop[0] = api.Tree{Kind: api.Element, Name: "a", Kids: loop}
	both := make([]api.Tree, 2)
	both[0] = api.Tree{Kind: api.Element, Name: "a", Kids: both}
	both[1] = both[0]
	markup.Same(loop, loop)
	markup.Same(both, both)
	if markup.Same(loop, both) || markup.Same(loop, forest(chain(api.MaxDepth, el("a")))) {
		t.Error("others are the same")
	}
}
