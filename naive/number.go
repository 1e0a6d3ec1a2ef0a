package naive

import (
	"slices"

	"espalier/api"
)

// numberer gives numbers to the paths, steps and expressions of a query. They stand in At, which plays no part in what these mean, and so are in every copy of them.
type numberer struct {
	given int
	plain map[plainStep]int // the numbers of steps without predicates
}

// plainStep is a step without predicates: two that are the same lead to the same, wherever they stand.
type plainStep struct {
	axis, test int
	name       string
}

// numbered is a query that can be, in memory of its own, whose parts have numbers, other parts other ones.
func numbered(q api.Query) api.Query {
	r := numberer{plain: map[plainStep]int{}}
	return r.query(q)
}

func (r *numberer) next() int {
	r.given++
	return r.given
}

func (r *numberer) query(q api.Query) api.Query {
	q.Paths = slices.Clone(q.Paths)
	for i := range q.Paths {
		p := &q.Paths[i]
		p.At = r.next()
		p.Steps = slices.Clone(p.Steps)
		for k, s := range p.Steps {
			p.Steps[k] = r.step(s)
		}
	}
	return q
}

func (r *numberer) step(s api.Step) api.Step {
	if len(s.Preds) > 0 {
		s.At = r.next()
		s.Preds = r.exprs(s.Preds)
		return s
	}
	plain := plainStep{s.Axis, s.Test, s.Name}
	if r.plain[plain] == 0 {
		r.plain[plain] = r.next()
	}
	s.At = r.plain[plain]
	return s
}

func (r *numberer) exprs(list []api.Expr) []api.Expr {
	list = slices.Clone(list)
	for i, e := range list {
		list[i] = r.expr(e)
	}
	return list
}

// expr goes on to what an expression uses alone: what it does not use may be anything, and without end.
func (r *numberer) expr(e api.Expr) api.Expr {
	e.At = r.next()
	switch e.Op {
	case opNumber, opText, opAttr:
	case opQuery:
		e.Query = r.query(e.Query)
	default:
		e.Parts = r.exprs(e.Parts)
	}
	return e
}
