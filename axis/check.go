package axis

import "espalier/api"

// Check tells what is wrong with spans that are to be those of a forest in document order: the place of the first wrong one, and why.
func Check(l []api.Span) (int, api.Errno) {
	if len(l) > api.MaxPlaced {
		return 0, api.ErrLong
	}
	var open []api.Span // of those ahead, each around the one behind it
	for i, s := range l {
		if !canBe(s) {
			return i, api.ErrSpan
		}
		if i > 0 && s.Begin <= l[i-1].Begin {
			return i, api.ErrOrder
		}
		open = notEnded(open, s.Begin)
		if !nests(open, s) {
			return i, api.ErrNest
		}
		open = append(open, s)
	}
	return 0, api.OK
}

// canBe tells whether a node of a document can have that span.
func canBe(s api.Span) bool {
	return 1 <= s.Begin && s.Begin < s.End && s.End < api.MaxLabel && 0 <= s.Level && s.Level < api.MaxDepth
}

// notEnded is those of the open spans that do not end ahead of a label. Begins rise, so what has ended there plays no part any more.
func notEnded(open []api.Span, label uint64) []api.Span {
	for len(open) > 0 && open[len(open)-1].End < label {
		open = open[:len(open)-1]
	}
	return open
}

// nests tells whether all open spans are around s, as many as its level says. The last one is around s just if all are: it ends ahead of all others.
func nests(open []api.Span, s api.Span) bool {
	return s.Level == len(open) && (len(open) == 0 || Ancestor(open[len(open)-1], s))
}
