package naive_test

import (
	"math/rand/v2"

	"espalier/api"
	"espalier/tree"
)

var functions = []struct {
	name  string
	parts int
}{{"true", 0}, {"false", 0}, {"position", 0}, {"last", 0}, {"name", 0}, {"not", 1}, {"count", 1}, {"string", 1}, {"length", 1}, {"number", 1}, {"contains", 2}, {"starts", 2}, {"sum", 1}}

var signs = []string{"=", "!=", "<", "<=", ">", ">="}

// maker makes documents and queries, the same ones in each run; left is how many parts the query that is made may still have.
type maker struct {
	*rand.Rand
	left int
}

func newMaker(seed uint64) *maker { return &maker{Rand: dice(seed)} }

// forest is a forest of few names, of at most so many nodes on each level.
func (m *maker) forest(most, deep int) []api.Tree {
	var l []api.Tree
	for range m.IntN(most + 1) {
		if m.IntN(4) == 0 {
			l = append(l, text(pick(m.Rand, []string{"1", "2", "3", "x", "", "é"})))
			continue
		}
		x := el(pick(m.Rand, []string{"a", "a", "b", "c"}))
		if m.IntN(2) == 0 {
			x.Attrs = append(x.Attrs, api.Attr{Name: "k", Value: pick(m.Rand, []string{"1", "2", "x", ""})})
		}
		if m.IntN(4) == 0 {
			x.Attrs = append(x.Attrs, api.Attr{Name: "m", Value: pick(m.Rand, []string{"1", "3"})})
		}
		if deep > 1 {
			x.Kids = m.forest(most, deep-1)
		}
		l = append(l, x)
	}
	return l
}

// edit does something to a document, at any place of it.
func (m *maker) edit(d *tree.Doc) {
	n, at := m.node(d), m.node(d)
	where := 1 + m.IntN(4)
	switch m.IntN(8) {
	case 0, 1:
		d.Move(n, where, at)
	case 2:
		d.Delete(n)
	case 3:
		d.SetName(n, pick(m.Rand, []string{"a", "b", "c"}))
		d.SetText(n, pick(m.Rand, []string{"1", "x"}))
	case 4:
		d.SetAttr(n, "k", pick(m.Rand, []string{"1", "2"}))
	case 5:
		d.DropAttr(n, "k")
	default:
		for _, x := range m.forest(2, 2) {
			d.Insert(where, at, x)
		}
	}
}

// node is a node of a document, or none.
func (m *maker) node(d *tree.Doc) api.Handle {
	return pick(m.Rand, places(d))
}

// query is a query of about so many parts.
func (m *maker) query(parts int) api.Query {
	m.left = parts
	return m.paths(0)
}

func (m *maker) paths(deep int) api.Query {
	q := api.Query{Paths: []api.Path{m.path(deep)}}
	for m.left > 0 && m.IntN(4) == 0 {
		q.Paths = append(q.Paths, m.path(deep))
	}
	return q
}

func (m *maker) path(deep int) api.Path {
	m.left--
	p := api.Path{Abs: m.IntN(4) == 0, At: m.IntN(9) - 4}
	n := 1 + m.IntN(3)
	if p.Abs && m.IntN(6) == 0 {
		n = 0
	}
	for range n {
		p.Steps = append(p.Steps, m.step(deep))
	}
	return p
}

func (m *maker) step(deep int) api.Step {
	m.left--
	s := api.Step{Axis: 1 + m.IntN(11), Test: pick(m.Rand, []int{1, 1, 2, 3, 4, 4}), At: m.IntN(9) - 4}
	switch m.IntN(8) {
	case 0:
		s.Axis = api.ChildAxis
	case 1:
		s.Axis, s.Test = api.DescendantOrSelfAxis, api.TestNode
	}
	if s.Test == api.TestName {
		s.Name = pick(m.Rand, []string{"a", "a", "b", "c", "z"})
	}
	for deep < 4 && m.left > 0 && m.IntN(3) == 0 {
		s.Preds = append(s.Preds, m.expr(deep+1))
	}
	return s
}

func (m *maker) expr(deep int) api.Expr {
	m.left--
	e := api.Expr{At: m.IntN(9) - 4}
	kind := m.IntN(14)
	if deep > 4 || m.left < 1 {
		kind = m.IntN(6)
	}
	switch kind {
	case 0:
		e.Op, e.Number = "number", int64(m.IntN(4))
	case 1:
		e.Op, e.Text = "text", pick(m.Rand, []string{"", "1", "2", "x", "a", "\"", "'"})
	case 2:
		e.Op, e.Text = "attr", pick(m.Rand, []string{"k", "k", "m", "z"})
	case 3, 4, 6, 7:
		e.Op, e.Query = "query", m.paths(deep)
	case 5, 8, 9:
		f := pick(m.Rand, functions)
		e.Op, e.Text = "call", f.name
		for range f.parts {
			e.Parts = append(e.Parts, m.expr(deep+1))
		}
	case 10, 11:
		e.Op = pick(m.Rand, []string{"or", "and"})
		e.Parts = []api.Expr{m.expr(deep + 1), m.expr(deep + 1)}
	default:
		e.Op = pick(m.Rand, signs)
		e.Parts = []api.Expr{m.expr(deep + 1), m.expr(deep + 1)}
	}
	return e
}

// litter puts something into all that a query's expressions do not use: even what hangs in itself.
func litter(q api.Query) api.Query {
	loop := []api.Expr{loop()}
	loop[0].Query = stepped(99, 0, "", loop[0])
	q = copyOf(q)
	litterPaths(q, loop)
	return q
}

func litterPaths(q api.Query, loop []api.Expr) {
	for _, p := range q.Paths {
		for _, s := range p.Steps {
			litterExprs(s.Preds, loop)
		}
	}
}

func litterExprs(l, loop []api.Expr) {
	for i := range l {
		e := &l[i]
		if e.Op == "query" {
			litterPaths(e.Query, loop)
		} else {
			e.Query = loop[0].Query
		}
		switch e.Op {
		case "number", "text", "attr", "query":
			e.Parts = loop
		default:
			litterExprs(e.Parts, loop)
		}
		if e.Op != "text" && e.Op != "attr" && e.Op != "call" {
			e.Text = "position"
		}
		if e.Op != "number" {
			e.Number = 2
		}
	}
}
