package naive

import (
	"slices"

	"espalier/api"
	"espalier/value"
)

// What expressions do, beside the signs.
const (
	opNumber = "number"
	opText   = "text"
	opAttr   = "attr"
	opCall   = "call"
	opQuery  = "query"
)

// spot is where an expression is asked: a place, its number in the turn, and how many there are.
type spot struct{ at, position, last int }

// verdict is whether a predicate holds.
type verdict struct{ holds bool }

// asker tells what a query leads to, by the texts of the nodes.
type asker = func(q api.Query) ([]string, api.Errno)

// kept is those of a turn at which a predicate holds.
func (w *walker) kept(e api.Expr, turn []int) []int {
	var list []int
	for i, at := range turn {
		if w.holds(e, spot{at, i + 1, len(turn)}) {
			list = append(list, at)
		}
	}
	return list
}

func (w *walker) holds(e api.Expr, s spot) bool {
	key := matter{e.At, s.at}
	if v, ok := w.truths[key]; ok {
		return v.holds
	}
	is, _ := value.Holds(e, w.here(s), w.asker(s.at))
	if !countsTurn(e) {
		w.truths[key] = verdict{is}
	}
	return is
}

// countsTurn tells whether it may matter to a predicate which one of its turn a place is: a number holds where it is the position.
func countsTurn(e api.Expr) bool { return comesToNumber(e) || asksTurn(e) }

func comesToNumber(e api.Expr) bool {
	if e.Op == opCall {
		switch e.Text {
		case "position", "last", "count", "length", "number", "sum":
			return true
		}
	}
	return e.Op == opNumber
}

// asksTurn tells whether an expression asks for numbers in a turn. What stands in its queries asks so in turns of its own.
func asksTurn(e api.Expr) bool {
	switch e.Op {
	case opNumber, opText, opAttr, opQuery:
		return false
	case opCall:
		if e.Text == "position" || e.Text == "last" {
			return true
		}
	}
	return slices.ContainsFunc(e.Parts, asksTurn)
}

// here is what expressions are told of where they are asked. The document has no name and no attributes.
func (w *walker) here(s spot) api.Here {
	here, ok := w.heres[s.at]
	if !ok {
		n := w.nodes[s.at]
		x, _ := w.Get(n)
		text, _ := value.Of(w.Doc, n)
		here = api.Here{Name: x.Name, Text: text, Attrs: x.Attrs}
		w.heres[s.at] = here
	}
	here.Position, here.Last = s.position, s.last
	return here
}

// asker is what tells expressions that are asked at a place what their queries lead to.
func (w *walker) asker(at int) asker {
	return func(q api.Query) ([]string, api.Errno) {
		var texts []string
		for i := range w.lead(q, at).all() {
			texts = append(texts, w.here(spot{at: i}).Text)
		}
		return texts, api.OK
	}
}
