package update

import (
	"espalier/api"
	"espalier/tree"
)

// canBe tells what is wrong with an edit, whatever stands beside it.
func canBe(op api.Op) api.Errno {
	if op.Kind < api.OpInsert || op.Kind > api.OpReplace {
		return api.ErrUpdate
	}
	if op.Kind == api.OpInsert || op.Kind == api.OpReplace {
		return tree.Check(op.Tree)
	}
	return api.OK
}

// thing is what two edits of a list can't both be of.
type thing struct {
	kind int
	node api.Handle
	name string
}

// only is the thing that an edit is of, if no other one of its list can be of it.
func only(op api.Op) (thing, bool) {
	switch op.Kind {
	case api.OpMove, api.OpName, api.OpText, api.OpReplace:
		return thing{kind: op.Kind, node: op.Node}, true
	case api.OpAttr, api.OpDropAttr:
		return thing{kind: api.OpAttr, node: op.Node, name: op.Name}, true
	}
	return thing{}, false
}

// phases is in how many goes a list is made.
const phases = 5

// phase is in which of them an edit of a kind is made.
func phase(kind int) int {
	switch kind {
	case api.OpInsert:
		return 1
	case api.OpMove:
		return 2
	case api.OpReplace:
		return 3
	case api.OpDelete:
		return 4
	}
	return 0
}

// ordered is the numbers of edits phase by phase, within each as they stand.
func ordered(l []api.Op) []int {
	order := make([]int, 0, len(l))
	for p := range phases {
		for i, op := range l {
			if phase(op.Kind) == p {
				order = append(order, i)
			}
		}
	}
	return order
}
