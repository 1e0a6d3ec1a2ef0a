package eval

import (
	"slices"

	"espalier/api"
	"espalier/value"
)

// What expressions do, beside the signs.
const (
	opOr     = "or"
	opAnd    = "and"
	opNumber = "number"
	opText   = "text"
	opAttr   = "attr"
	opCall   = "call"
	opQuery  = "query"
)

// On what it hangs what an expression answers.
const (
	onPlace = 1 << iota
	onPosition
	onLast
)

// pred is a predicate made ready.
type pred struct {
	expr  api.Expr // of each query in it, the first path's At is the query's number in asks
	asks  []asked
	hangs int
	known map[int]verdict // by that on which it hangs, if that is no more than one thing
}

// asked is a query of a predicate.
type asked struct {
	plan  plan
	truth bool // it matters only whether it leads to a node
}

// verdict is whether a predicate holds.
type verdict struct{ holds bool }

// spot is where a predicate is asked: a place, its number in the turn, and how many there are.
type spot struct{ place, position, last int }

func (x *Index) pred(e api.Expr) *pred {
	p := &pred{hangs: hangsOn(e), known: map[int]verdict{}}
	// A number holds where it is the position.
	if counts(e) {
		p.hangs |= onPosition
	}
	p.expr = x.numbered(p, e, true)
	return p
}

// numbered is an expression in which queries are told apart by the At of their first path, which plays no part in what they mean. truth: it is taken as a truth.
func (x *Index) numbered(p *pred, e api.Expr, truth bool) api.Expr {
	switch e.Op {
	case opNumber, opText, opAttr:
	case opQuery:
		made := asked{x.plan(e.Query), truth}
		e.Query.Paths = slices.Clone(e.Query.Paths)
		e.Query.Paths[0].At = len(p.asks)
		p.asks = append(p.asks, made)
	default:
		e.Parts = slices.Clone(e.Parts)
		for i, part := range e.Parts {
			e.Parts[i] = x.numbered(p, part, takesTruths(e))
		}
	}
	return e
}

// takesTruths tells whether an expression takes its parts as truths.
func takesTruths(e api.Expr) bool {
	return e.Op == opOr || e.Op == opAnd || e.Op == opCall && e.Text == "not"
}

// hangsOn is on what an expression hangs. What stands in its queries is asked at other places.
func hangsOn(e api.Expr) int {
	switch e.Op {
	case opNumber, opText:
		return 0
	case opAttr:
		return onPlace
	case opQuery:
		return queryHangsOn(e.Query)
	case opCall:
		return callHangsOn(e)
	}
	return partsHangOn(e)
}

// queryHangsOn: one of which all paths begin at the document leads to the same nodes everywhere.
func queryHangsOn(q api.Query) int {
	if slices.ContainsFunc(q.Paths, func(p api.Path) bool { return !p.Abs }) {
		return onPlace
	}
	return 0
}

func callHangsOn(e api.Expr) int {
	switch e.Text {
	case "position":
		return onPosition
	case "last":
		return onLast
	case "name":
		return onPlace
	}
	return partsHangOn(e)
}

func partsHangOn(e api.Expr) int {
	all := 0
	for _, part := range e.Parts {
		all |= hangsOn(part)
	}
	return all
}

// counts tells whether an expression comes to a number.
func counts(e api.Expr) bool {
	if e.Op == opCall {
		switch e.Text {
		case "position", "last", "count", "sum", "length", "number":
			return true
		}
	}
	return e.Op == opNumber
}

// key is that on which a predicate hangs; false, if that is more than one thing: there may be too many of these to keep.
func (p *pred) key(at spot) (int, bool) {
	switch p.hangs {
	case 0:
		return 0, true
	case onPlace:
		return at.place, true
	case onPosition:
		return at.position, true
	case onLast:
		return at.last, true
	}
	return 0, false
}

// holds tells whether a predicate is true.
func (x *Index) holds(p *pred, at spot) bool {
	key, keeps := p.key(at)
	if v, ok := p.known[key]; keeps && ok {
		return v.holds
	}
	here := x.nodes[at.place].here
	here.Position, here.Last = at.position, at.last
	is, _ := value.Holds(p.expr, here, func(q api.Query) ([]string, api.Errno) {
		return x.tell(p.asks[q.Paths[0].At], at.place), api.OK
	})
	if keeps {
		p.known[key] = verdict{is}
	}
	return is
}

// tell is the nodes to which a query leads from a place, by their texts. Of one that is taken as a truth any text does.
func (x *Index) tell(a asked, from int) []string {
	var list []string
	if a.truth {
		if x.leads(a.plan, from) {
			list = append(list, "")
		}
		return list
	}
	for i := range x.lead(a.plan, from).all() {
		list = append(list, x.nodes[i].here.Text)
	}
	return list
}
