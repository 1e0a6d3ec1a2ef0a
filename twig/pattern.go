package twig

import (
	"espalier/api"
	"espalier/chars"
)

// maxPlaces is how many nodes a pattern may have.
const maxPlaces = 16

// place is a node of a pattern: above is the number of the one that it hangs under, in their order (of the first one -1).
type place struct {
	name   string
	above  int
	direct bool
}

// count is how many nodes a pattern has, but at most so many: it may be of any size, or even hang under itself.
func count(t api.Twig, most int) int {
	n := 1
	for _, k := range t.Kids {
		if n == most {
			break
		}
		n += count(k, most-n)
	}
	return n
}

// places is a pattern's nodes in their order; or why it can't be.
func places(t api.Twig) ([]place, api.Errno) {
	if Size(t) > maxPlaces {
		return nil, api.ErrTwig
	}
	ps := appendPlaces(nil, t, -1)
	for _, p := range ps {
		if p.name != "" && !chars.Name(p.name) {
			return nil, api.ErrName
		}
	}
	return ps, api.OK
}

// appendPlaces puts the nodes of a pattern that hangs under a place behind the others.
func appendPlaces(ps []place, t api.Twig, above int) []place {
	at := len(ps)
	ps = append(ps, place{t.Name, above, t.Direct})
	for _, k := range t.Kids {
		ps = appendPlaces(ps, k, at)
	}
	return ps
}

// branches tells whether a place has more than one under it: then some place hangs elsewhere than under the one ahead of it.
func branches(ps []place) bool {
	for i, p := range ps {
		if p.above != i-1 {
			return true
		}
	}
	return false
}

// group and groupUnder part nodes by what may lie in what: a node that stands at the place is of the group that is under the one it lies in. Direct places have a group a level, so that nobody looks at what lies deeper; all others have one.
func (p place) group(s api.Span) int {
	if p.direct {
		return s.Level
	}
	return 0
}

func (p place) groupUnder(s api.Span) int {
	if p.direct {
		return s.Level + 1
	}
	return 0
}
