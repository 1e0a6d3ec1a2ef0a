package tree

import (
	"espalier/api"
	"espalier/chars"
)

// Check tells what is wrong with a tree in plain: the error of its first node that can't be.
func Check(x api.Tree) api.Errno {
	ahead := 0
	return check(x, 1, &ahead)
}

// check looks at x, which lies so deep and behind so many nodes, and at all within it. It stops at the first wrong node, so that a tree of any size, even one that holds itself, is looked at no farther than the limits.
func check(x api.Tree, depth int, ahead *int) api.Errno {
	if depth > api.MaxDepth || *ahead >= api.MaxNodes {
		return api.ErrLong
	}
	*ahead++
	if e := checkNode(x); e != api.OK {
		return e
	}
	for _, k := range kidsOf(x) {
		if e := check(k, depth+1, ahead); e != api.OK {
			return e
		}
	}
	return api.OK
}

// checkNode looks at x without its children.
func checkNode(x api.Tree) api.Errno {
	switch x.Kind {
	case api.Element:
		if !chars.Name(x.Name) {
			return api.ErrName
		}
		return checkAttrs(x.Attrs)
	case api.Text:
		_, e := chars.Text(x.Text)
		return e
	}
	return api.ErrArg
}

func checkAttrs(l []api.Attr) api.Errno {
	if len(l) > api.MaxAttrs {
		return api.ErrLong
	}
	for i, a := range l {
		if !chars.Name(a.Name) || i > 0 && a.Name <= l[i-1].Name {
			return api.ErrName
		}
		if _, e := chars.Text(a.Value); e != api.OK {
			return e
		}
	}
	return api.OK
}

// kidsOf is x's children: whatever stands in that field of a text plays no part.
func kidsOf(x api.Tree) []api.Tree {
	if x.Kind == api.Text {
		return nil
	}
	return x.Kids
}

// measure is how many nodes a tree has that can be, and how deep the deepest one lies in it.
func measure(x api.Tree) (nodes, height int) {
	for _, k := range kidsOf(x) {
		n, h := measure(k)
		nodes += n
		height = max(height, h)
	}
	return nodes + 1, height + 1
}
