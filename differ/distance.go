package differ

import (
	"espalier/api"
	"espalier/markup"
)

// ended is a node without its children, in a list of a forest's nodes as they end, and the place there of the first one that ends within it.
type ended struct {
	node  api.Tree
	first int
}

// meter tells how far apart parts of two forests are.
type meter struct {
	a, b  []ended
	turn  [api.MaxDistance][api.MaxDistance]int // what it takes that a node of a becomes one of b
	known map[[4]int]int                        // by the places in a from which and up to which a part goes, and those in b
}

// distance is how far apart two forests are that have no more nodes than MaxDistance.
func distance(a, b []api.Tree) int {
	m := meter{a: ends(a, nil), b: ends(b, nil), known: map[[4]int]int{}}
	for i, x := range m.a {
		for j, y := range m.b {
			if !markup.Same([]api.Tree{x.node}, []api.Tree{y.node}) {
				m.turn[i][j] = 1
			}
		}
	}
	return m.apart(0, len(m.a), 0, len(m.b))
}

// ends puts a forest's nodes, as they end, behind those of a list.
func ends(f []api.Tree, l []ended) []ended {
	for _, x := range f {
		first := len(l)
		l = ends(x.Kids, l)
		x.Kids = nil
		l = append(l, ended{x, first})
	}
	return l
}

// apart is how far apart the nodes of a from one place up to another one and those of b are; none of them has a child ahead of these. The last one of a is taken out, or that of b put in, or the one becomes the other one: then what lies in the one becomes what lies in the other one, and what stands ahead what stands ahead.
func (m *meter) apart(fromA, toA, fromB, toB int) int {
	if fromA == toA || fromB == toB {
		return toA - fromA + toB - fromB
	}
	key := [4]int{fromA, toA, fromB, toB}
	if n, known := m.known[key]; known {
		return n
	}
	lastA, lastB := toA-1, toB-1
	innerA, innerB := m.a[lastA].first, m.b[lastB].first
	turned := m.turn[lastA][lastB] + m.apart(innerA, lastA, innerB, lastB) + m.apart(fromA, innerA, fromB, innerB)
	n := min(turned, m.apart(fromA, lastA, fromB, toB)+1, m.apart(fromA, toA, fromB, lastB)+1)
	m.known[key] = n
	return n
}
