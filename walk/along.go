package walk

import (
	"slices"

	"espalier/api"
	"espalier/tree"
)

// along is the nodes of an axis of a node, as they are now, in a list of its own.
func along(d *tree.Doc, axis int, n api.Handle) []api.Handle {
	switch axis {
	case api.ChildAxis:
		return row(d, n)
	case api.DescendantAxis:
		return within(d, n)[1:]
	case api.DescendantOrSelfAxis:
		return within(d, n)
	case api.ParentAxis:
		up := upward(d, n)
		return up[1:min(2, len(up))]
	case api.AncestorAxis:
		return upward(d, n)[1:]
	case api.AncestorOrSelfAxis:
		return upward(d, n)
	case api.FollowingAxis:
		return following(d, n)
	case api.PrecedingAxis:
		return preceding(d, n)
	case api.FollowingSiblingAxis:
		_, behind := siblings(d, n)
		return behind
	case api.PrecedingSiblingAxis:
		ahead, _ := siblings(d, n)
		slices.Reverse(ahead)
		return ahead
	}
	return []api.Handle{n}
}

// row is the children of a node, of 0 the roots.
func row(d *tree.Doc, n api.Handle) []api.Handle {
	if n == 0 {
		return d.Roots()
	}
	kids, _ := d.Kids(n)
	return kids
}

// within is a node and all within it, of 0 all nodes.
func within(d *tree.Doc, n api.Handle) []api.Handle {
	all, _ := d.All(n)
	return all
}

// above is the parent of a node, 0 of a root.
func above(d *tree.Doc, n api.Handle) api.Handle {
	parent, _ := d.Parent(n)
	return parent
}

// upward is a node and all around it, from it up.
func upward(d *tree.Doc, n api.Handle) []api.Handle {
	var up []api.Handle
	for ; n != 0; n = above(d, n) {
		up = append(up, n)
	}
	return up
}

// siblings is those that stand ahead of a node and those that stand behind it, in their order.
func siblings(d *tree.Doc, n api.Handle) (ahead, behind []api.Handle) {
	l := row(d, above(d, n))
	i := slices.Index(l, n)
	return l[:i], l[i+1:]
}

// following is what begins behind a node's end: in document order it stands behind all that lies within.
func following(d *tree.Doc, n api.Handle) []api.Handle {
	all := within(d, 0)
	return all[slices.Index(all, n)+len(within(d, n)):]
}

// preceding is what ends ahead of a node's begin, the nearest first: what begins ahead of it, but for those around it, which come up from the nearest one on.
func preceding(d *tree.Doc, n api.Handle) []api.Handle {
	all := within(d, 0)
	around := above(d, n)
	var l []api.Handle
	for _, x := range slices.Backward(all[:slices.Index(all, n)]) {
		if x == around {
			around = above(d, x)
		} else {
			l = append(l, x)
		}
	}
	return l
}
