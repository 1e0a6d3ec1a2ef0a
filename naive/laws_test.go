package naive_test

import (
	"slices"
	"testing"

	"espalier/api"
	"espalier/naive"
	"espalier/tree"
	"espalier/walk"
)

// together is some nodes in document order, each once.
func together(d *tree.Doc, l []api.Handle) []api.Handle {
	all, _ := d.All(0)
	return slices.DeleteFunc(all, func(n api.Handle) bool { return !slices.Contains(l, n) })
}

// only: nodes that a step's test lets by.
func only(d *tree.Doc, s api.Step, l []api.Handle) []api.Handle {
	return slices.DeleteFunc(slices.Clone(l), func(n api.Handle) bool {
		x, _ := d.Get(n)
		switch s.Test {
		case api.TestName:
			return x.Name != s.Name
		case api.TestAny:
			return x.Kind != api.Element
		case api.TestText:
			return x.Kind != api.Text
		}
		return false
	})
}

// turn is the nodes of an axis as walk tells them.
func turn(t *testing.T, d *tree.Doc, axis int, n api.Handle) []api.Handle {
	t.Helper()
	s, e := walk.Axis(d, axis, n)
	if e != api.OK {
		t.Fatal(e)
	}
	return slices.Collect(s)
}

// steps is a step along each axis, with each test, and each of these names.
func steps(names ...string) []api.Step {
	var l []api.Step
	for axis := api.ChildAxis; axis <= api.SelfAxis; axis++ {
		for _, name := range names {
			l = append(l, api.Step{Axis: axis, Test: api.TestName, Name: name})
		}
		for _, test := range []int{api.TestAny, api.TestText, api.TestNode} {
			l = append(l, api.Step{Axis: axis, Test: test})
		}
	}
	return l
}

// going is a query of one path with these steps.
func going(steps ...api.Step) api.Query { return api.Query{Paths: []api.Path{{Steps: steps}}} }

// P16.4: a path leads to what its last step leads to from what the path without it leads to.
func TestLastStep(t *testing.T) {
	m := newMaker(10)
	more := 0
	for range 300 {
		d := plant(t, m.forest(4, 4))
		for range 10 {
			q, n := m.query(10), m.node(d)
			p := &q.Paths[0]
			q.Paths = q.Paths[:1]
			// So that none of the places is the document.
			p.Steps = append(p.Steps, api.Step{Axis: 1 + m.IntN(11), Test: pick(m.Rand, []int{api.TestAny, api.TestText})})
			m.left = 5
			last := m.step(2)
			var want []api.Handle
			for _, x := range from(t, d, n, q) {
				want = append(want, from(t, d, x, going(last))...)
			}
			p.Steps = append(p.Steps, last)
			if want = together(d, want); !all(t, d, n, q, want) {
				return
			}
			more += len(want)
		}
	}
	if more < 500 {
		t.Error("too few:", more)
	}
	// Of two steps of which the first one leads to the document the second one goes on from there.
	d := ways(t)
	for _, n := range d.Roots() {
		all(t, d, n, read(t, "../*"), together(d, only(d, api.Step{Test: api.TestAny}, d.Roots())))
		all(t, d, n, read(t, "ancestor::node()/node()"), d.Roots())
		all(t, d, n, read(t, "../.."), nil)
	}
	all(t, d, 0, read(t, "./node()"), d.Roots())
	all(t, d, 0, read(t, "ancestor-or-self::node()/descendant-or-self::node()"), places(d)[1:])
}

// P16.4: a query of several paths leads to all that each leads to, in document order, each once.
func TestSeveralPaths(t *testing.T) {
	m := newMaker(11)
	for range 300 {
		d := plant(t, m.forest(4, 4))
		for range 10 {
			q, n := m.query(8), m.node(d)
			q.Paths = append(q.Paths, m.path(0), m.path(0), q.Paths[0])
			var want []api.Handle
			for i := range q.Paths {
				want = append(want, from(t, d, n, api.Query{Paths: q.Paths[i : i+1]})...)
			}
			all(t, d, n, q, together(d, want))
		}
	}
}

// P16.5: a path of one step without predicates leads to the nodes of walk's axis that its test lets by, in document order.
func TestAxes(t *testing.T) {
	m := newMaker(12)
	docs := []*tree.Doc{ways(t)}
	for range 30 {
		docs = append(docs, plant(t, m.forest(4, 4)))
	}
	for _, d := range docs {
		for range m.IntN(6) {
			m.edit(d)
		}
		for _, s := range steps("a", "b", "none") {
			for _, n := range places(d)[1:] {
				all(t, d, n, going(s), together(d, only(d, s, turn(t, d, s.Axis, n))))
			}
			// Of the document: the roots, all nodes, or nothing.
			var want []api.Handle
			switch s.Axis {
			case api.ChildAxis:
				want = d.Roots()
			case api.DescendantAxis, api.DescendantOrSelfAxis:
				want = places(d)[1:]
			}
			all(t, d, 0, going(s), only(d, s, want))
		}
	}
}

// P16.6: a number keeps the node of that place in the turn; last() the last one, which need not be the last one in the document.
func TestPlaces(t *testing.T) {
	d := ways(t)
	for _, s := range steps("a", "b") {
		for _, n := range places(d)[1:] {
			l := only(d, s, turn(t, d, s.Axis, n))
			if s.Test == api.TestNode && (s.Axis == api.AncestorAxis || s.Axis == api.AncestorOrSelfAxis || s.Axis == api.ParentAxis && len(l) == 0) {
				l = append(l, 0) // the document is a place, too, and the last one
			}
			at := func(k int) []api.Handle {
				if k < 1 || k > len(l) || l[k-1] == 0 {
					return nil
				}
				return l[k-1 : k]
			}
			pred := func(text string) api.Query {
				r := s
				r.Preds = read(t, "*"+text).Paths[0].Steps[0].Preds
				return going(r)
			}
			for k, text := range []string{"[0]", "[1]", "[2]", "[3]", "[4]", "[5]"} {
				all(t, d, n, pred(text), at(k))
				all(t, d, n, pred("[position() = "+text[1:]), at(k))
			}
			all(t, d, n, pred("[last()]"), at(len(l)))
			all(t, d, n, pred("[position() > 1][1]"), at(2))
			all(t, d, n, pred("[position() > 1][last()]"), at(max(len(l), 2)))
			all(t, d, n, pred("[position() < 3][last()]"), at(min(len(l), 2)))
			all(t, d, n, pred("[true()]"), from(t, d, n, going(s)))
			all(t, d, n, pred("[false()]"), nil)
		}
	}
}

// P16.6: each place has a turn of its own: last() keeps one of each, the same one perhaps.
func TestTurns(t *testing.T) {
	d := load(t, "<a><b/><b/><c><b/></c></a><a><b/></a>") // a 1, b 2, b 3, c 4, b 5, a 6, b 7
	leads(t, d, "//b[1]", first(2, 5, 7))
	leads(t, d, "//b[2]", first(3))
	leads(t, d, "//b[last()]", first(3, 5, 7))
	leads(t, d, "/descendant::b[last()]", first(7))
	leads(t, d, "/descendant::b[2]", first(3))
	leads(t, d, "/a/b[1]", first(2, 7))
	leads(t, d, "/a[1]/b[last()]", first(3))
	leads(t, d, "//b/following::b[1]", first(3, 5, 7))
	leads(t, d, "//b/following::b[last()]", first(7))
	leads(t, d, "//b/preceding::b[1]", first(2, 3, 5))
	leads(t, d, "//b/preceding::b[last()]", first(2))
	leads(t, d, "//b/ancestor::*[1]", first(1, 4, 6))
	leads(t, d, "//b/ancestor::*[2]", first(1))
	leads(t, d, "//b/ancestor::node()[2]", first(1))
	leads(t, d, "//b/ancestor-or-self::*[last()]", first(1, 6))
	leads(t, d, "//*[b[2]]", first(1))
	leads(t, d, "//*[b[last() = 1]]", first(4, 6))
	leads(t, d, "//*[position() = count(following-sibling::*)]", first(1))
	leads(t, d, "//*[count(following-sibling::*)]", first(1))
	leads(t, d, "//c[count(b)]", first(4))
	leads(t, d, "//*[count(b) > 0]", first(1, 4, 6))
	leads(t, d, "//b[position() = last()][1]", first(3, 5, 7))
	leads(t, d, "//*[not(position() = last())]", first(1, 2, 3))
	leads(t, d, "//*[count(//b[last()]) = last()]", first(2, 3, 4))
}

// P16.6: whatever comes to a number keeps the node of that place, in each turn another one; what does not, or asks for its place itself, is asked of each.
func TestNumbers(t *testing.T) {
	d := load(t, "<a><b/><b/><c><b/></c></a><a><b/></a><n>2</n>") // a 1, b 2, b 3, c 4, b 5, a 6, b 7, n 8
	for _, s := range []string{
		"2", "(2)", `number("2")`, "number(/n)", "count(/a)", `length("ab")`, "sum(/n)", "position() = 2", "position() = /n", "2 = position()", "not(position() != 2)", "not(not(position() = 2))", "position() = 2 or false()", "true() and position() = count(/a)",
		`contains(string(position()), "2")`, "starts(/n, position())", `string(position()) = "2"`,
	} {
		leads(t, d, "//b/following::b["+s+"]", first(5, 7))
		leads(t, d, "//b/preceding::b["+s+"]", first(2, 3))
	}
	for _, s := range []string{"last()", "position() = last()", "last() = position()", "not(position() < last())", "position() = last() or false()", "count(following::b) = 0"} {
		leads(t, d, "//b/following::b["+s+"]", first(7))
	}
	for _, s := range []string{"last() = 3", "contains(last(), 3)", "not(last() != 3)"} {
		leads(t, d, "//b/following::b["+s+"]", first(3, 5, 7))
	}
	for _, s := range []string{"/n", "string(2)", "true()", "name()", "not(2 = 3)", "count(/a) = 2", `"0"`, "2 or 0", "1 and position()", "//b[2]", ".//node()[1] or ."} {
		leads(t, d, "//b/following::b["+s+"]", first(3, 5, 7))
	}
	for _, s := range []string{"0", "4", "count(4)", `number("x")`, "sum(/a)", `""`, "false()", "zz", "@k", "position() = 4", "0 and position()"} {
		leads(t, d, "//b/following::b["+s+"]", nil)
	}
}

// P16.6: one more predicate keeps some of those that were kept; true() keeps all.
func TestFewer(t *testing.T) {
	m := newMaker(13)
	fewer := 0
	for range 300 {
		d := plant(t, m.forest(4, 4))
		for range 10 {
			m.left = 12
			s, n := m.step(0), m.node(d)
			was := from(t, d, n, going(s))
			e := m.expr(1)
			r := s
			r.Preds = append(slices.Clone(s.Preds), e)
			now := from(t, d, n, going(r))
			for _, x := range now {
				if !slices.Contains(was, x) {
					t.Fatalf("From(%x, %s): %x; without the last predicate %x", n, written(going(r)), now, was)
				}
			}
			if len(now) < len(was) {
				fewer++
			}
			r.Preds = append(slices.Clone(s.Preds), expr(t, "true()"))
			all(t, d, n, going(r), was)
		}
	}
	if fewer < 300 {
		t.Error("too few:", fewer)
	}
}

// P16.7: //name leads to all elements of that name; a node with it is meant by it, no other one is.
func TestNamed(t *testing.T) {
	m := newMaker(14)
	for range 100 {
		d := plant(t, append(m.forest(4, 4), el("c", text("c"))))
		for range m.IntN(6) {
			m.edit(d)
		}
		for _, name := range []string{"a", "b", "c", "none"} {
			q := read(t, "//"+name)
			want := only(d, api.Step{Test: api.TestName, Name: name}, places(d)[1:])
			for _, n := range places(d) {
				all(t, d, n, q, want)
				if n == 0 {
					continue
				}
				if is, e := naive.Match(d, n, q); is != slices.Contains(want, n) || e != api.OK {
					t.Errorf("Match(%x, %s): %t, %d; want %x", n, written(q), is, e, want)
				}
			}
		}
	}
}

// P16.7, P16.3: a node is meant by a query just if that leads to it from one of those places.
func TestMeant(t *testing.T) {
	m := newMaker(15)
	for range 200 {
		d := plant(t, m.forest(4, 4))
		for range 10 {
			q := m.query(1 + m.IntN(8))
			for _, n := range places(d)[1:] {
				want := false
				for _, x := range append(turn(t, d, api.AncestorOrSelfAxis, n), 0) {
					want = want || slices.Contains(from(t, d, x, q), n)
				}
				if is, e := naive.Match(d, n, q); is != want || e != api.OK {
					t.Fatalf("Match(%x, %s) in %s: %t, %d", n, written(q), plain(d), is, e)
				}
			}
		}
	}
}
