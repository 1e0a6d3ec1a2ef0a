package value

import (
	"cmp"
	"slices"

	"espalier/api"
)

// The signs by which values are held against each other.
const (
	opSame      = "="
	opOther     = "!="
	opBelow     = "<"
	opBelowSame = "<="
	opAbove     = ">"
	opAboveSame = ">="
)

func isSign(op string) bool {
	switch op {
	case opSame, opOther, opBelow, opBelowSame, opAbove, opAboveSame:
		return true
	}
	return false
}

// orders tells whether a sign asks which one is greater: that is asked of numbers alone.
func orders(op string) bool { return op != opSame && op != opOther }

// meets tells whether a sign is so, if the first one is below (-1), the same as (0) or above (1) the second one.
func meets(op string, order int) bool {
	switch op {
	case opSame:
		return order == 0
	case opOther:
		return order != 0
	case opBelow:
		return order < 0
	case opBelowSame:
		return order <= 0
	case opAbove:
		return order > 0
	}
	return order >= 0
}

// held holds two values against each other. What is not nodes goes as a list of one, so that it is always asked whether one of each list is so.
func held(op string, a, b api.Value) bool {
	has := func(kind int) bool { return a.Kind == kind || b.Kind == kind }
	switch {
	case has(api.VBool) && (has(api.VNodes) || !orders(op)):
		return numbersMeet(op, bit(asTruth(a)), bit(asTruth(b)))
	case orders(op):
		// If any two are so, then the least and the greatest ones are: so no more need be tried.
		return someNumbers(op, ends(numbers(a)), ends(numbers(b)))
	case has(api.VNumber):
		return someNumbers(op, numbers(a), numbers(b))
	}
	return someTexts(op, texts(a), texts(b))
}

// numbersMeet holds two numbers against each other: what is no number is not the same as anything.
func numbersMeet(op string, a, b number) bool {
	if !a.is || !b.is {
		return op == opOther
	}
	return meets(op, cmp.Compare(a.n, b.n))
}

// someNumbers tells whether one of a and one of b are so.
func someNumbers(op string, a, b []number) bool {
	for _, x := range a {
		for _, y := range b {
			if numbersMeet(op, x, y) {
				return true
			}
		}
	}
	return false
}

// numbers is what a value is as a number; of nodes what each of them is.
func numbers(v api.Value) []number {
	if v.Kind != api.VNodes {
		return []number{asNumber(v)}
	}
	list := make([]number, len(v.Texts))
	for i, s := range v.Texts {
		list[i] = read(s)
	}
	return list
}

// ends is the least and the greatest number of a list; none, if none is one.
func ends(list []number) []number {
	var both []number
	for _, x := range list {
		switch {
		case !x.is:
		case both == nil:
			both = []number{x, x}
		default:
			both[0].n, both[1].n = min(both[0].n, x.n), max(both[1].n, x.n)
		}
	}
	return both
}

// texts is the texts of nodes, or the one of a text.
func texts(v api.Value) []string {
	if v.Kind == api.VNodes {
		return v.Texts
	}
	return []string{v.Text}
}

// someTexts tells whether one of a and one of b are the same, or are not. Lists may be long and full of long texts, so that not each is held against each.
func someTexts(op string, a, b []string) bool {
	if len(a) == 0 || len(b) == 0 {
		return false
	}
	if op == opSame {
		return share(a, b)
	}
	// If all of each list are the first one of the other list, all are one and the same.
	return differ(a, b[0]) || differ(b, a[0])
}

func share(a, b []string) bool {
	has := make(map[string]struct{}, len(a))
	for _, s := range a {
		has[s] = struct{}{}
	}
	return slices.ContainsFunc(b, func(s string) bool {
		_, ok := has[s]
		return ok
	})
}

// differ tells whether one of a list is another text.
func differ(list []string, text string) bool {
	return slices.ContainsFunc(list, func(s string) bool { return s != text })
}
