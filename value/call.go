package value

import (
	"strings"

	"espalier/api"
	"espalier/chars"
)

// The functions.
const (
	fnTrue     = "true"
	fnFalse    = "false"
	fnPosition = "position"
	fnLast     = "last"
	fnName     = "name"
	fnNot      = "not"
	fnString   = "string"
	fnNumber   = "number"
	fnCount    = "count"
	fnSum      = "sum"
	fnLength   = "length"
	fnContains = "contains"
	fnStarts   = "starts"
)

// argsOf is how many arguments a function has; false, if there is none of that name.
func argsOf(name string) (int, bool) {
	switch name {
	case fnTrue, fnFalse, fnPosition, fnLast, fnName:
		return 0, true
	case fnNot, fnString, fnNumber, fnCount, fnSum, fnLength:
		return 1, true
	case fnContains, fnStarts:
		return 2, true
	}
	return 0, false
}

// called is what a function answers of as many arguments as it has, which can be.
func called(name string, here api.Here, args []api.Value) api.Value {
	switch name {
	case fnTrue, fnFalse:
		return truth(name == fnTrue)
	case fnPosition:
		return integer(int64(here.Position))
	case fnLast:
		return integer(int64(here.Last))
	case fnName:
		return words(here.Name)
	case fnNot:
		return truth(!asTruth(args[0]))
	case fnString:
		return words(asText(args[0]))
	case fnNumber:
		return asNumber(args[0]).value()
	case fnCount:
		return count(args[0]).value()
	case fnSum:
		return sum(args[0]).value()
	case fnLength:
		n, _ := chars.Len(asText(args[0]))
		return integer(int64(n))
	case fnContains:
		return truth(strings.Contains(asText(args[0]), asText(args[1])))
	}
	return truth(strings.HasPrefix(asText(args[0]), asText(args[1])))
}

// count is how many nodes there are; of all else it is no number.
func count(v api.Value) number {
	if v.Kind != api.VNodes {
		return number{}
	}
	return number{int64(len(v.Texts)), true}
}

// sum is the sum of nodes; it is no number as soon as one of them is none, or it has become too great or too small.
func sum(v api.Value) number {
	if v.Kind != api.VNodes {
		return number{}
	}
	total := number{0, true}
	for _, x := range numbers(v) {
		total = add(total, x)
	}
	return total
}

// add is the sum of two numbers; what wraps round goes the wrong way.
func add(a, b number) number {
	n := a.n + b.n
	if !a.is || !b.is || (n > a.n) != (b.n > 0) {
		return number{}
	}
	return number{n, true}
}
