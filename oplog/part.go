package oplog

import (
	"espalier/api"
	"espalier/chars"
	"espalier/tree"
)

// parts is which fields of an edit its Kind uses; where: At and Where, which are used together.
type parts struct{ node, where, name, value, tree bool }

// partsOf is those of a Kind; false, if edits of that Kind are not logged.
func partsOf(kind int) (parts, bool) {
	switch kind {
	case api.OpInsert:
		return parts{where: true, tree: true}, true
	case api.OpMove:
		return parts{node: true, where: true}, true
	case api.OpDelete:
		return parts{node: true}, true
	case api.OpName, api.OpDropAttr:
		return parts{node: true, name: true}, true
	case api.OpText:
		return parts{node: true, value: true}, true
	case api.OpAttr:
		return parts{node: true, name: true, value: true}, true
	}
	return parts{}, false
}

// canLog tells whether an edit can be logged.
func canLog(op api.Op) bool {
	p, ok := partsOf(op.Kind)
	switch {
	case !ok:
		return false
	case p.where && (op.Where < 0 || op.Where > 255):
		return false
	case p.name && !canText(op.Name):
		return false
	case p.value && !canText(op.Value):
		return false
	}
	return !p.tree || tree.Check(op.Tree) == api.OK
}

func canText(s string) bool {
	_, e := chars.Text(s)
	return e == api.OK
}
