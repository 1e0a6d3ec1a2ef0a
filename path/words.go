package path

import "espalier/api"

// What expressions do, beside the signs.
const (
	opOr     = "or"
	opAnd    = "and"
	opNumber = "number"
	opText   = "text"
	opAttr   = "attr"
	opCall   = "call"
	opQuery  = "query"
)

// The words of the tests behind which brackets stand.
const (
	wordText = "text"
	wordNode = "node"
)

// maxNumber is the greatest number of an expression; it has as many digits as one may have.
const (
	maxNumber = 999999999
	maxDigits = 9
)

// How tightly an expression holds its parts together; what holds looser than the one around it stands in brackets.
const (
	holdsOr = iota
	holdsAnd
	holdsSign
	holdsAll
)

// hold is how tightly what is done so holds.
func hold(op string) int {
	switch op {
	case opOr:
		return holdsOr
	case opAnd:
		return holdsAnd
	case "=", "!=", "<", "<=", ">", ">=":
		return holdsSign
	}
	return holdsAll
}

// axisWord is the word of an axis; the empty one, if there is none of that number.
func axisWord(axis int) string {
	switch axis {
	case api.ChildAxis:
		return "child"
	case api.DescendantAxis:
		return "descendant"
	case api.DescendantOrSelfAxis:
		return "descendant-or-self"
	case api.ParentAxis:
		return "parent"
	case api.AncestorAxis:
		return "ancestor"
	case api.AncestorOrSelfAxis:
		return "ancestor-or-self"
	case api.FollowingAxis:
		return "following"
	case api.PrecedingAxis:
		return "preceding"
	case api.FollowingSiblingAxis:
		return "following-sibling"
	case api.PrecedingSiblingAxis:
		return "preceding-sibling"
	case api.SelfAxis:
		return "self"
	}
	return ""
}

// axisOf is the axis of a word.
func axisOf(word string) (int, bool) {
	for axis := api.ChildAxis; axis <= api.SelfAxis; axis++ {
		if axisWord(axis) == word {
			return axis, true
		}
	}
	return 0, false
}

// partsOf is how many parts a function has; false, if a word is none's.
func partsOf(function string) (int, bool) {
	switch function {
	case "true", "false", "position", "last", "name":
		return 0, true
	case "not", "count", "string", "length", "number", "sum":
		return 1, true
	case "contains", "starts":
		return 2, true
	}
	return 0, false
}

// anywhere tells whether a step is what // stands for.
func anywhere(s api.Step) bool {
	return s.Axis == api.DescendantOrSelfAxis && s.Test == api.TestNode && len(s.Preds) == 0
}

// wraps tells whether a part of or, of and or of a sign stands in brackets whatever stands behind it: those that hold alike go together from the left alone, and signs not at all.
func wraps(op string, right bool, part api.Expr) bool {
	around, within := hold(op), hold(part.Op)
	if right || around == holdsSign {
		return within <= around
	}
	return within < around
}

// slashEnds tells whether an expression is a query that ends with the / of a path without steps: a word behind that would be read as its first step.
func slashEnds(e api.Expr) bool {
	return e.Op == opQuery && len(e.Query.Paths) > 0 && len(e.Query.Paths[len(e.Query.Paths)-1].Steps) == 0
}

// wordBehind tells whether the word of or, or of and, stands right behind a part of what is done so, if one does (or does not) behind the whole.
func wordBehind(op string, right, behind bool) bool {
	if right {
		return behind
	}
	return hold(op) < holdsSign
}
