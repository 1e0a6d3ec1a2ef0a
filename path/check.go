package path

import (
	"strings"

	"espalier/api"
	"espalier/chars"
)

// checker tells whether what it is handed can be. It counts down what may still begin: a query may be of any size, or even hang in itself.
type checker struct{ left int }

// begin counts a path, a step or an expression.
func (c *checker) begin() bool {
	c.left--
	return c.left >= 0
}

// query looks at a query that stands within so many brackets.
func (c *checker) query(q api.Query, open int) bool {
	for _, p := range q.Paths {
		if !c.begin() || !p.Abs && len(p.Steps) == 0 || !c.steps(p.Steps, open) {
			return false
		}
	}
	return len(q.Paths) > 0
}

func (c *checker) steps(list []api.Step, open int) bool {
	for _, s := range list {
		if !c.begin() || axisWord(s.Axis) == "" || !testCan(s) || !c.exprs(s.Preds, open+1) {
			return false
		}
	}
	return true
}

// testCan tells whether a step's test can be; a name stands just where one is tested.
func testCan(s api.Step) bool {
	switch s.Test {
	case api.TestName:
		return chars.Name(s.Name)
	case api.TestAny, api.TestText, api.TestNode:
		return s.Name == ""
	}
	return false
}

// exprs looks at expressions of which each, or all together, stand in brackets, the so-many-th ones.
func (c *checker) exprs(list []api.Expr, open int) bool {
	for _, e := range list {
		if open > api.MaxNest || !c.expr(e, open, false) {
			return false
		}
	}
	return true
}

// expr looks at an expression within so many brackets; behind: whether the word of or, or of and, stands right behind it.
func (c *checker) expr(e api.Expr, open int, behind bool) bool {
	if !c.begin() {
		return false
	}
	switch e.Op {
	case opNumber:
		return e.Number >= 0 && e.Number <= maxNumber
	case opText:
		return quotable(e.Text)
	case opAttr:
		return chars.Name(e.Text)
	case opQuery:
		return c.query(e.Query, open)
	case opCall:
		parts, ok := partsOf(e.Text)
		return ok && len(e.Parts) == parts && open < api.MaxNest && c.exprs(e.Parts, open+1)
	}
	return hold(e.Op) < holdsAll && len(e.Parts) == 2 && c.part(e, 0, open, behind) && c.part(e, 1, open, behind)
}

// part looks at a part of or, of and or of a sign; brackets that could be left out are not counted.
func (c *checker) part(e api.Expr, i, open int, behind bool) bool {
	part, right := e.Parts[i], i > 0
	behind = wordBehind(e.Op, right, behind)
	if wraps(e.Op, right, part) || behind && slashEnds(part) {
		return c.exprs([]api.Expr{part}, open+1)
	}
	return c.expr(part, open, behind)
}

// quotable tells whether a text can stand between quotes.
func quotable(s string) bool {
	_, e := chars.Text(s)
	return e == api.OK && !(strings.Contains(s, `"`) && strings.Contains(s, "'"))
}
