package names

import (
	"slices"

	"espalier/api"
	"espalier/label"
)

// Lists is nodes by keys of whatever kind.
type Lists[K comparable] struct {
	keys []K // as they first came up
	of   map[K][]api.Placed
}

// By is the nodes of a document by what a function answers of them. What can't be compared, though its type can (a list in an interface), is as good as a panic.
func By[K comparable](d *label.Doc, key func(t api.Tree) (K, bool)) (*Lists[K], api.Errno) {
	if d == nil || key == nil {
		return nil, api.ErrArg
	}
	l := &Lists[K]{of: map[K][]api.Placed{}}
	// Both are told ahead of the first call: key may change the document.
	nodes, all := d.Tree(), d.Spans()
	done := caught(func() {
		for _, p := range all {
			t, _ := nodes.Get(p.Node)
			if k, ok := key(t); ok {
				l.put(k, p)
			}
		}
	})
	if !done {
		return nil, api.ErrPanic
	}
	return l, api.OK
}

// Keys is the keys, as they first came up.
func (l *Lists[K]) Keys() []K { return slices.Clone(l.keys) }

// Of is the nodes of a key, in document order. A map that is asked for what can't be compared panics: that is nobody's key.
func (l *Lists[K]) Of(k K) []api.Placed {
	var in []api.Placed
	caught(func() { in = l.of[k] })
	return slices.Clone(in)
}

// Len is how many keys there are.
func (l *Lists[K]) Len() int { return len(l.keys) }

// put lets a node stand under a key. One that is not the same as itself is found by nobody: it is new each time, and what stands under it need not be kept.
func (l *Lists[K]) put(k K, p api.Placed) {
	if _, there := l.of[k]; !there {
		l.keys = append(l.keys, k)
	}
	if k == k {
		l.of[k] = append(l.of[k], p)
	}
}

// caught runs f; false, if that panicked.
func caught(f func()) (done bool) {
	defer func() { recover() }()
	f()
	return true
}
