package value

import (
	"slices"

	"espalier/api"
	"espalier/path"
)

// What expressions do, beside the signs.
const (
	opOr     = "or"
	opAnd    = "and"
	opNumber = "number"
	opText   = "text"
	opAttr   = "attr"
	opCall   = "call"
	opQuery  = "query"
)

// asker tells what a query leads to, by the texts of the nodes.
type asker = func(q api.Query) ([]string, api.Errno)

// Eval is what an expression answers somewhere; what its queries lead to a function tells, by the texts of the nodes.
func Eval(e api.Expr, here api.Here, ask func(q api.Query) ([]string, api.Errno)) (api.Value, api.Errno) {
	if ask == nil || !exprCan(e) {
		return api.Value{}, api.ErrArg
	}
	// Copies are gone by: ask is not the program's own, and may write into what it is handed, or into what it knows of.
	here.Attrs = slices.Clone(here.Attrs)
	p := place{here: here, ask: guarded(ask)}
	return p.answer(copyExpr(e))
}

// Holds tells whether an expression is true somewhere: a number is true at the place that it counts.
func Holds(e api.Expr, here api.Here, ask func(q api.Query) ([]string, api.Errno)) (bool, api.Errno) {
	v, why := Eval(e, here, ask)
	if why != api.OK {
		return false, why
	}
	if v.Kind == api.VNumber {
		return !v.None && v.Num == int64(here.Position), api.OK
	}
	return asTruth(v), api.OK
}

// exprCan tells whether there can be such an expression: that is, whether it can be a predicate.
func exprCan(e api.Expr) bool {
	step := api.Step{Axis: api.ChildAxis, Test: api.TestNode, Preds: []api.Expr{e}}
	return path.Check(api.Query{Paths: []api.Path{{Steps: []api.Step{step}}}}) == api.OK
}

// guarded is a function that answers as ask does, and an error where that panics.
func guarded(ask asker) asker {
	return func(q api.Query) (list []string, why api.Errno) {
		// It stays so where ask does not come to its end.
		why = api.ErrPanic
		defer func() { recover() }()
		return ask(q)
	}
}

// place is where expressions that can be are asked.
type place struct {
	here api.Here
	ask  asker
}

// answer is what an expression comes to.
func (p place) answer(e api.Expr) (api.Value, api.Errno) {
	switch e.Op {
	case opOr, opAnd:
		return p.joined(e)
	case opNumber:
		return integer(e.Number), api.OK
	case opText:
		return words(e.Text), api.OK
	case opAttr:
		return passed(p.attr(e.Text))
	case opCall:
		return p.call(e)
	case opQuery:
		return p.query(e.Query)
	}
	return p.compared(e)
}

// passed is a value, if it can be: what comes from outside need not.
func passed(v api.Value) (api.Value, api.Errno) {
	if !canBe(v) {
		return api.Value{}, api.ErrValue
	}
	return v, api.OK
}

// joined is what or, or and, come to; what follows the part that settles it is not asked.
func (p place) joined(e api.Expr) (api.Value, api.Errno) {
	settles := e.Op == opOr
	for _, part := range e.Parts {
		v, why := p.answer(part)
		if why != api.OK {
			return api.Value{}, why
		}
		if asTruth(v) == settles {
			return truth(settles), api.OK
		}
	}
	return truth(!settles), api.OK
}

// attr is the value of the first attribute of a name; of none, if there is none.
func (p place) attr(name string) api.Value {
	i := slices.IndexFunc(p.here.Attrs, func(a api.Attr) bool { return a.Name == name })
	if i < 0 {
		return nodes()
	}
	return nodes(p.here.Attrs[i].Value)
}

func (p place) call(e api.Expr) (api.Value, api.Errno) {
	args, why := p.parts(e.Parts)
	if why != api.OK {
		return api.Value{}, why
	}
	return passed(called(e.Text, p.here, args))
}

func (p place) compared(e api.Expr) (api.Value, api.Errno) {
	v, why := p.parts(e.Parts)
	if why != api.OK {
		return api.Value{}, why
	}
	return truth(held(e.Op, v[0], v[1])), api.OK
}

// parts is what all of a list come to, up to the first one that can't be answered.
func (p place) parts(list []api.Expr) ([]api.Value, api.Errno) {
	var values []api.Value
	for _, e := range list {
		v, why := p.answer(e)
		if why != api.OK {
			return nil, why
		}
		values = append(values, v)
	}
	return values, api.OK
}

// query is the nodes to which a query leads. How many they are is looked at ahead of copying them.
func (p place) query(q api.Query) (api.Value, api.Errno) {
	list, why := p.ask(q)
	if why != api.OK {
		return api.Value{}, why
	}
	if len(list) > api.MaxNodes {
		return api.Value{}, api.ErrValue
	}
	return passed(nodes(list...))
}

// copyExpr is an expression that can be, all that it uses in memory of its own.
func copyExpr(e api.Expr) api.Expr {
	switch e.Op {
	case opNumber, opText, opAttr:
	case opQuery:
		e.Query = copyQuery(e.Query)
	default:
		e.Parts = copyExprs(e.Parts)
	}
	return e
}

func copyExprs(list []api.Expr) []api.Expr {
	list = slices.Clone(list)
	for i, e := range list {
		list[i] = copyExpr(e)
	}
	return list
}

func copyQuery(q api.Query) api.Query {
	q.Paths = slices.Clone(q.Paths)
	for i := range q.Paths {
		p := &q.Paths[i]
		p.Steps = slices.Clone(p.Steps)
		for k, s := range p.Steps {
			p.Steps[k].Preds = copyExprs(s.Preds)
		}
	}
	return q
}
