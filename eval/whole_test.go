package eval_test

import (
	"slices"
	"testing"

	"espalier/api"
	"espalier/label"
	"espalier/path"
)

// P15.1, P15.2, P15.3: any query leads from any place of any document to what the words say, however the document came to be.
func TestAny(t *testing.T) {
	t.Parallel()
	m := newMaker(1)
	some, asked := 0, 0
	for range 1200 {
		d := plant(t, append(m.forest(3, 4), m.forest(4, 4)...))
		for range m.IntN(8) {
			m.edit(d)
		}
		x, w := index(t, d), newWorld(d)
		for range 12 {
			q := m.query(1 + m.IntN(14))
			if path.Check(q) != api.OK {
				t.Fatalf("made what can't be: %+v", q)
			}
			for _, n := range []api.Handle{0, m.node(d), m.node(d)} {
				want := w.answers(n, q)
				if !all(t, x, n, q, want) || !all(t, x, n, litter(q), want) {
					t.Fatal(plain(d))
				}
				asked++
				if len(want) > 0 {
					some++
				}
			}
			if l, at, e := x.Ask(written(q)); !slices.Equal(l, w.answers(0, q)) || at != 0 || e != api.OK {
				t.Fatalf("Ask(%s): %x, %d, %d", written(q), l, at, e)
			}
		}
	}
	if some < asked/4 {
		t.Errorf("only %d of %d lead to anything", some, asked)
	}
}

// ways is a document in which each axis has something to tell, from most of its nodes: several roots, texts among them, elements of one name in one another.
func ways(t *testing.T) *label.Doc {
	return load(t, `t<a k="1"><b/>1<a k="2"><b>2</b><a/>x<b k="1"><c/></b></a><c>3</c><b/></a><b><a>1</a>y</b>u<a/>`)
}

// steps is a step along each axis, with each test, and each of these names.
func steps(names ...string) []api.Step {
	var l []api.Step
	for axis := api.ChildAxis; axis <= api.SelfAxis; axis++ {
		for _, name := range names {
			l = append(l, api.Step{Axis: axis, Test: api.TestName, Name: name})
		}
		for _, test := range []int{api.TestAny, api.TestText, api.TestNode} {
			l = append(l, api.Step{Axis: axis, Test: test})
		}
	}
	return l
}

// P15.3: each axis with each test, from each place: alone, and with each predicate behind it.
func TestSteps(t *testing.T) {
	d := ways(t)
	x, w := index(t, d), newWorld(d)
	preds := []string{"[1]", "[2]", "[3]", "[0]", "[last()]", "[position() = last()]", "[position() < 3]", "[last() > 2]", "[last() = 1]", "[2][1]", "[position() > 1][2]", "[last()][1]", "[a]", "[not(b)]", "[@k]", "[@k = 1][last()]", "[last()][@k = 1]", "[.]", "[..]", "[. = 1]", "[name() = \"a\"][2]", "[name()]", "[text() or b]", "[//c][2]", "[true()]", "[false()]", "[\"\"]", "[\"x\"]", "[count(*)]", "[length(.)]", "[sum(text())]", "[number(@k)]", "[string(@k)]", "[2 or 0]", "[0 or @k]", "[1 and a]", "[/]"}
	for _, s := range steps("a", "b", "none") {
		for _, p := range append([]string{""}, preds...) {
			s := s
			s.Preds = read(t, "*"+p).Paths[0].Steps[0].Preds
			for _, abs := range []bool{false, true} {
				q := api.Query{Paths: []api.Path{{Abs: abs, Steps: []api.Step{s}}}}
				for _, n := range places(d) {
					all(t, x, n, q, w.answers(n, q))
				}
			}
		}
	}
}

// P15.3: any two steps behind each other, with numbers in turns or without; and as a predicate, where it is asked only whether they lead anywhere.
func TestTwoSteps(t *testing.T) {
	t.Parallel()
	d := ways(t)
	x, w := index(t, d), newWorld(d)
	one := read(t, "*[1]").Paths[0].Steps[0].Preds
	for _, s := range steps("a") {
		for _, r := range steps("b") {
			for k := range 4 {
				s, r := s, r
				if k&1 > 0 {
					s.Preds = one
				}
				if k&2 > 0 {
					r.Preds = one
				}
				q := api.Query{Paths: []api.Path{{Steps: []api.Step{s, r}}}}
				for _, n := range []api.Handle{0, hd(1, 1), hd(5, 1), hd(11, 1)} {
					if !all(t, x, n, q, w.answers(n, q)) {
						return
					}
				}
				asks := api.Expr{Op: "query", Query: q}
				for _, e := range []api.Expr{asks, {Op: "call", Text: "not", Parts: []api.Expr{asks}}} {
					held := api.Step{Axis: api.DescendantOrSelfAxis, Test: api.TestNode, Preds: []api.Expr{e}}
					q := api.Query{Paths: []api.Path{{Steps: []api.Step{held}}}}
					if !all(t, x, 0, q, w.answers(0, q)) {
						return
					}
				}
			}
		}
	}
}

// P15.4: what is told rises in document order; nothing stands twice, however often it is led to.
func TestEachOnce(t *testing.T) {
	m := newMaker(2)
	for range 300 {
		d := plant(t, m.forest(4, 4))
		for range 6 {
			m.edit(d)
		}
		x := index(t, d)
		order := map[api.Handle]uint64{}
		for _, p := range d.Spans() {
			order[p.Node] = p.Span.Begin
		}
		for range 20 {
			q := m.query(1 + m.IntN(10))
			q.Paths = append(q.Paths, q.Paths[0], m.path(0))
			l, e := x.From(m.node(d), q)
			if e != api.OK {
				t.Fatal(e)
			}
			for i, n := range l {
				if order[n] == 0 || i > 0 && order[n] <= order[l[i-1]] {
					t.Fatalf("%s: %x", written(q), l)
				}
			}
		}
	}
}

// P15.5: whatever numbers the labels are, the same is answered of a document of the same image.
func TestOtherLabels(t *testing.T) {
	m := newMaker(3)
	others := 0
	for range 300 {
		d := plant(t, m.forest(3, 4))
		for range 30 {
			m.edit(d)
		}
		// Where a node goes to and fro, gaps close: the labels around it become others.
		for range 100 {
			n := m.node(d)
			d.Insert(api.First, 0, text("x"))
			d.Delete(d.Tree().Roots()[0])
			d.Move(n, api.First, 0)
		}
		l, e := label.Load(d.Tree().Image())
		if e != api.OK {
			t.Fatal(e)
		}
		if !slices.Equal(l.Spans(), d.Spans()) {
			others++
		}
		x, y := index(t, d), index(t, l)
		for range 20 {
			q, n := m.query(1+m.IntN(12)), m.node(d)
			want, _ := x.From(n, q)
			all(t, y, n, q, want)
			want, _ = x.Eval(q)
			all(t, y, 0, q, want)
		}
	}
	if others < 200 {
		t.Error(others)
	}
}
