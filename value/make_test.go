package value_test

import (
	"math/rand/v2"
	"reflect"
	"strings"
	"testing"

	"espalier/api"
	"espalier/path"
)

// holder is the query that has an expression as its predicate: by it the chapter says which ones can be.
func holder(e api.Expr) api.Query {
	s := api.Step{Axis: api.ChildAxis, Test: api.TestNode, Preds: []api.Expr{e}}
	return api.Query{Paths: []api.Path{{Steps: []api.Step{s}}}}
}

// expr is the expression of a text.
func expr(t *testing.T, s string) api.Expr {
	t.Helper()
	q, at, e := path.Parse("node()[" + s + "]")
	if e != api.OK {
		t.Fatalf("%s: %d at %d", s, e, at)
	}
	return q.Paths[0].Steps[0].Preds[0]
}

// written is an expression's text.
func written(e api.Expr) string {
	s, _ := path.Print(holder(e))
	return s
}

// maker makes expressions, the same ones in each run; left is how many parts one may still have.
type maker struct {
	*rand.Rand
	left int
}

func (m *maker) expr(parts int) api.Expr {
	m.left = parts
	return m.part()
}

func (m *maker) part() api.Expr {
	m.left--
	e := api.Expr{At: m.IntN(50) - 5}
	kind := m.IntN(12)
	if m.left < 1 {
		kind = m.IntN(5)
	}
	switch kind {
	case 0:
		e.Op, e.Number = "number", pick(m.Rand, []int64{0, 1, 2, 3, 999999999})
	case 1:
		e.Op, e.Text = "text", pick(m.Rand, []string{"", "1", "2", "x", " 2 ", "\"", "'"})
	case 2:
		e.Op, e.Text = "attr", pick(m.Rand, []string{"a", "b", "c", "bad"})
	case 3, 4, 5:
		e.Op, e.Query = "query", m.query()
	case 6, 7, 8:
		names := []string{"true", "false", "position", "last", "name", "not", "string", "number", "count", "sum", "length", "contains", "starts"}
		e.Op, e.Text = "call", pick(m.Rand, names)
		for range functions[e.Text] {
			e.Parts = append(e.Parts, m.part())
		}
	default:
		e.Op = pick(m.Rand, append([]string{"or", "and", "or", "and", "or", "and"}, signs...))
		e.Parts = []api.Expr{m.part(), m.part()}
	}
	return e
}

// query is a query that is told apart from others by its place.
func (m *maker) query() api.Query {
	s := api.Step{Axis: 1 + m.IntN(11), Test: api.TestName, Name: pick(m.Rand, []string{"a", "b"}), At: m.IntN(1 << 30)}
	for m.left > 0 && m.IntN(3) == 0 {
		s.Preds = append(s.Preds, m.part())
	}
	q := api.Query{Paths: []api.Path{{Steps: []api.Step{s}, Abs: m.IntN(2) == 0, At: m.IntN(9)}}}
	if m.IntN(3) == 0 {
		q.Paths = append(q.Paths, api.Path{Abs: true})
	}
	return q
}

// litter puts something into all that an expression does not use: even what hangs in itself.
func litter(e api.Expr) api.Expr {
	loop := []api.Expr{{Op: "not"}}
	loop[0].Parts = loop
	e = copyExpr(e)
	var each func(e *api.Expr)
	each = func(e *api.Expr) {
		parts, query := e.Parts, e.Query
		e.Parts, e.Query = loop, holder(loop[0])
		switch e.Op {
		case "number":
			e.Text = "\x00"
			return
		case "text", "attr":
			e.Number = -1
			return
		case "query":
			e.Text, e.Number = "\x00", -1
			e.Query = query
			for _, p := range query.Paths {
				for _, s := range p.Steps {
					for i := range s.Preds {
						each(&s.Preds[i])
					}
				}
			}
			return
		}
		e.Number = -1
		if e.Op != "call" {
			e.Text = "\xff"
		}
		e.Parts = parts
		for i := range parts {
			each(&parts[i])
		}
	}
	each(&e)
	return e
}

// copyExpr is an expression in memory of its own.
func copyExpr(e api.Expr) api.Expr { return deep(reflect.ValueOf(e)).Interface().(api.Expr) }

func deep(v reflect.Value) reflect.Value {
	out := reflect.New(v.Type()).Elem()
	switch v.Kind() {
	case reflect.Struct:
		for i := range v.NumField() {
			out.Field(i).Set(deep(v.Field(i)))
		}
	case reflect.Slice:
		if v.IsNil() {
			return out
		}
		out.Set(reflect.MakeSlice(v.Type(), v.Len(), v.Len()))
		for i := range v.Len() {
			out.Index(i).Set(deep(v.Index(i)))
		}
	default:
		out.Set(v)
	}
	return out
}

// chain is parts with or between them, so many in all with the ors.
func chain(leaf api.Expr, leaves int) api.Expr {
	e := leaf
	for range leaves - 1 {
		e = api.Expr{Op: "or", Parts: []api.Expr{e, leaf}}
	}
	return e
}

// nested is a function in itself so often.
func nested(leaf api.Expr, times int) api.Expr {
	for range times {
		leaf = api.Expr{Op: "call", Text: "not", Parts: []api.Expr{leaf}}
	}
	return leaf
}

func long(n int) string { return strings.Repeat("x", n) }
