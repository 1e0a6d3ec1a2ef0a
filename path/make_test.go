package path_test

import (
	"math/rand/v2"
	"strconv"
	"strings"

	"espalier/api"
)

var (
	axes      = []string{"", "child", "descendant", "descendant-or-self", "parent", "ancestor", "ancestor-or-self", "following", "preceding", "following-sibling", "preceding-sibling", "self"}
	functions = []struct {
		name  string
		parts int
	}{{"true", 0}, {"false", 0}, {"position", 0}, {"last", 0}, {"name", 0}, {"not", 1}, {"count", 1}, {"string", 1}, {"length", 1}, {"number", 1}, {"contains", 2}, {"starts", 2}, {"sum", 1}}
	signs = []string{"=", "!=", "<", "<=", ">", ">="}
)

const letters = "abcdefghijklmnopqrstuvwxyzABCDEFGHIJKLMNOPQRSTUVWXYZ_"

// maker makes queries that can be, the same ones in each run; left is how many parts the one that is made may still have.
type maker struct {
	*rand.Rand
	left int
}

func newMaker(seed uint64) *maker { return &maker{Rand: dice(seed)} }

func pick[T any](m *maker, l []T) T { return l[m.IntN(len(l))] }

// query is a query of about so many parts.
func (m *maker) query(parts int) api.Query {
	m.left = parts
	return m.paths(0)
}

func (m *maker) paths(deep int) api.Query {
	q := query(m.path(deep))
	for m.left > 0 && m.IntN(4) == 0 {
		q.Paths = append(q.Paths, m.path(deep))
	}
	return q
}

func (m *maker) path(deep int) api.Path {
	m.left--
	p := api.Path{Abs: m.IntN(3) == 0, At: m.IntN(99) - 9}
	n := m.IntN(4)
	if !p.Abs {
		n++
	}
	for range n {
		p.Steps = append(p.Steps, m.step(deep))
	}
	return p
}

func (m *maker) step(deep int) api.Step {
	m.left--
	s := api.Step{Axis: 1 + m.IntN(11), Test: 1 + m.IntN(4), At: m.IntN(99) - 9}
	switch m.IntN(6) {
	case 0, 1:
		s.Axis = api.ChildAxis
	case 2:
		s.Axis, s.Test = api.DescendantOrSelfAxis, api.TestNode
	case 3:
		s.Axis, s.Test = pick(m, []int{api.SelfAxis, api.ParentAxis}), api.TestNode
	}
	if s.Test == api.TestName {
		s.Name = m.name()
	}
	for deep < 6 && m.left > 0 && m.IntN(3) == 0 {
		s.Preds = append(s.Preds, m.expr(deep+1))
	}
	return s
}

func (m *maker) name() string {
	return pick(m, []string{"a", "b", "or", "and", "text", "node", "child", "self", "not", "count", "_", "Z.", "a-b.c9", "x" + strings.Repeat("-", 31)})
}

func (m *maker) expr(deep int) api.Expr {
	m.left--
	e := api.Expr{At: m.IntN(99) - 9}
	kind := m.IntN(12)
	if deep > 6 || m.left < 1 {
		kind = m.IntN(5)
	}
	switch kind {
	case 0:
		e.Op, e.Number = "number", pick(m, []int64{0, 1, 9, 10, 42, 999999999})
	case 1:
		e.Op, e.Text = "text", pick(m, []string{"", "x", "é\n", "\"", "'", " or ", "[(/", "\\"})
	case 2:
		e.Op, e.Text = "attr", m.name()
	case 3:
		e.Op, e.Query = "query", query(abs(0))
	case 4:
		e.Op, e.Query = "query", m.paths(deep)
	case 5:
		f := pick(m, functions)
		e.Op, e.Text = "call", f.name
		for range f.parts {
			e.Parts = append(e.Parts, m.expr(deep+1))
		}
	default:
		e.Op = pick(m, append([]string{"or", "and", "or", "and", "or", "and"}, signs...))
		e.Parts = []api.Expr{m.expr(deep + 1), m.expr(deep + 1)}
	}
	return e
}

// junk puts something into all that a query's expressions do not use.
func junk(q api.Query) api.Query {
	q = copyOf(q)
	for i := range q.Paths {
		for k := range q.Paths[i].Steps {
			junkExprs(q.Paths[i].Steps[k].Preds)
		}
	}
	return q
}

func junkExprs(l []api.Expr) {
	bad := []api.Expr{{Op: "none"}, {Op: "or"}, asks(0, abs(0, child(0, "zzz")))}
	for i := range l {
		e := &l[i]
		if e.Op == "query" {
			e.Query = junk(e.Query)
		} else {
			e.Query = query(rel(0), abs(0, child(0, "zzz"), step(0, 77, 88, bad...)), abs(0))
		}
		if usesParts(e.Op) {
			junkExprs(e.Parts)
		} else {
			e.Parts = bad
		}
		if e.Op != "text" && e.Op != "attr" && e.Op != "call" {
			e.Text = "\"'\x00"
		}
		if e.Op != "number" {
			e.Number = -1 << 63
		}
	}
}

// pen writes a query as a text in any form, and tells its places. With a nil maker it writes no more than it must: no blanks but where words would run together, no brackets but where it would else be read otherwise.
type pen struct {
	*maker
	out  []byte
	word bool // the last piece is a word
	lies int  // brackets around
}

// might: in any form, now and then.
func (w *pen) might() bool { return w.maker != nil && w.IntN(3) == 0 }

// piece writes a piece: its place.
func (w *pen) piece(s string) int {
	if w.word && s != "" && strings.ContainsAny(s[:1], letters+"0123456789-.") {
		w.out = append(w.out, ' ')
	}
	for w.might() {
		w.out = append(w.out, " \t\r\n"[w.IntN(4)])
	}
	at := len(w.out)
	w.out = append(w.out, s...)
	w.word = s != "" && strings.ContainsAny(s[:1], letters)
	return at
}

// write is a text of the query, and the query with its places there.
func write(m *maker, q api.Query) (string, api.Query) {
	w := &pen{maker: m}
	q = w.query(copyOf(q))
	w.word = false
	w.piece("")
	return string(w.out), q
}

func (w *pen) query(q api.Query) api.Query {
	for i := range q.Paths {
		if i > 0 {
			w.piece("|")
		}
		w.path(&q.Paths[i])
	}
	return q
}

func (w *pen) path(p *api.Path) {
	p.At = -1
	steps := p.Steps
	first := true
	if p.Abs && (len(steps) < 2 || !plain(steps[0], api.DescendantOrSelfAxis) || w.might()) {
		p.At = w.piece("/")
	} else if p.Abs {
		p.At = w.piece("//")
		steps[0].At = p.At
		steps = steps[1:]
	}
	for len(steps) > 0 {
		if !first && len(steps) > 1 && plain(steps[0], api.DescendantOrSelfAxis) && !w.might() {
			steps[0].At = w.piece("//")
			steps = steps[1:]
		} else if !first {
			w.piece("/")
		}
		w.step(&steps[0])
		if p.At < 0 {
			p.At = steps[0].At
		}
		steps, first = steps[1:], false
	}
}

// plain: the step is of that axis, and of any node.
func plain(s api.Step, axis int) bool {
	return s.Axis == axis && s.Test == api.TestNode && s.Name == "" && len(s.Preds) == 0
}

func (w *pen) step(s *api.Step) {
	if plain(*s, api.SelfAxis) && !w.might() {
		s.At = w.piece(".")
		return
	}
	if plain(*s, api.ParentAxis) && !w.might() {
		s.At = w.piece("..")
		return
	}
	s.At = -1
	if s.Axis != api.ChildAxis || w.might() {
		word := "no-axis"
		if s.Axis > 0 && s.Axis < len(axes) {
			word = axes[s.Axis]
		}
		s.At = w.piece(word)
		w.piece("::")
	}
	at := w.test(*s)
	if s.At < 0 {
		s.At = at
	}
	for i := range s.Preds {
		w.piece("[")
		w.lies++
		w.expr(&s.Preds[i], false)
		w.lies--
		w.piece("]")
	}
}

func (w *pen) test(s api.Step) int {
	var at int
	switch s.Test {
	case api.TestName:
		return w.piece(s.Name)
	case api.TestAny:
		return w.piece("*")
	case api.TestText:
		at = w.piece("text")
	case api.TestNode:
		at = w.piece("node")
	default:
		return w.piece("?")
	}
	w.piece("(")
	w.piece(")")
	return at
}

// wrapped writes an expression in brackets.
func (w *pen) wrapped(e *api.Expr) {
	w.piece("(")
	w.lies++
	w.expr(e, false)
	w.lies--
	w.piece(")")
}

// expr writes an expression; behind: a word comes behind it, which a path without steps would take for its first one.
func (w *pen) expr(e *api.Expr, behind bool) {
	if w.lies < 12 && w.might() && w.might() {
		w.wrapped(e)
		return
	}
	switch e.Op {
	case "number":
		e.At = w.piece(strconv.FormatInt(e.Number, 10))
	case "text":
		quote := `"`
		if strings.Contains(e.Text, quote) || !strings.Contains(e.Text, "'") && w.might() {
			quote = "'"
		}
		e.At = w.piece(quote + e.Text + quote)
	case "attr":
		e.At = w.piece("@")
		w.piece(e.Text)
	case "query":
		w.asked(e, behind)
	case "call":
		w.call(e)
	default:
		w.parts(e, behind)
	}
}

func (w *pen) asked(e *api.Expr, behind bool) {
	n := len(e.Query.Paths)
	if behind && n > 0 && len(e.Query.Paths[n-1].Steps) == 0 {
		w.wrapped(e)
		return
	}
	e.Query = w.query(e.Query)
	if n > 0 {
		e.At = e.Query.Paths[0].At
	}
}

func (w *pen) call(e *api.Expr) {
	e.At = w.piece(e.Text)
	w.piece("(")
	w.lies++
	for i := range e.Parts {
		if i > 0 {
			w.piece(",")
		}
		w.expr(&e.Parts[i], false)
	}
	w.lies--
	w.piece(")")
}

func rank(op string) int {
	switch {
	case op == "or":
		return 1
	case op == "and":
		return 2
	case isSign(op):
		return 3
	}
	return 4
}

// parts writes what stands on the sides of a word or sign.
func (w *pen) parts(e *api.Expr, behind bool) {
	for i := range e.Parts {
		if i > 0 {
			e.At = w.piece(e.Op)
		}
		p, last := &e.Parts[i], i == len(e.Parts)-1
		if rank(p.Op) < rank(e.Op) || rank(p.Op) == rank(e.Op) && (i > 0 || isSign(e.Op)) {
			w.wrapped(p)
		} else {
			w.expr(p, last && behind || !last && !isSign(e.Op))
		}
	}
}
