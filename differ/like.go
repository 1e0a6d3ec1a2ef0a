package differ

import (
	"strconv"

	"espalier/api"
	"espalier/tree"
)

// The ways in which two nodes may be alike, the closest first.
const (
	whole = iota // the same with all within them
	named        // of one kind, and of one name
	inner        // the same with all within them but for the name
	ways
)

// likeness is a node's number in each way: two that are alike in it have the same one.
type likeness [ways]int

// numbers is those of nodes in a way.
func numbers(of map[api.Handle]likeness, list []api.Handle, way int) []int {
	l := make([]int, len(list))
	for i, n := range list {
		l[i] = of[n][way]
	}
	return l
}

// numbering gives each thing a number of its own. What nodes hold may be long: by numbers it is gone through only once.
type numbering struct {
	words map[string]int // names, values and texts
	lists map[string]int // lists of numbers, as bytes
}

// of is the likeness of each node of a document.
func (n numbering) of(d *tree.Doc) map[api.Handle]likeness {
	likes := map[api.Handle]likeness{}
	all := allOf(d)
	for i := len(all) - 1; i >= 0; i-- { // children ahead of their parents
		x, _ := d.Get(all[i])
		within := []int{x.Kind, n.word(x.Text), len(x.Attrs)}
		for _, a := range x.Attrs {
			within = append(within, n.word(a.Name), n.word(a.Value))
		}
		within = append(within, numbers(likes, kidsOf(d, all[i]), whole)...)
		var l likeness
		l[named] = n.list(named, x.Kind, n.word(x.Name))
		l[inner] = n.list(append([]int{inner}, within...)...)
		l[whole] = n.list(whole, l[named], l[inner])
		likes[all[i]] = l
	}
	return likes
}

func (n numbering) word(s string) int { return numberIn(n.words, s) }

func (n numbering) list(l ...int) int {
	var b []byte
	for _, x := range l {
		b = append(strconv.AppendInt(b, int64(x), 10), ' ')
	}
	return numberIn(n.lists, string(b))
}

// numberIn is a thing's number: of a new one the next.
func numberIn(known map[string]int, s string) int {
	x, has := known[s]
	if !has {
		x = len(known)
		known[s] = x
	}
	return x
}

// longest is the longest list that two have in their order: the places of each thing in both.
func longest[T comparable](a, b []T) [][2]int {
	var l [][2]int
	i := 0
	for ; i < min(len(a), len(b)) && a[i] == b[i]; i++ {
		l = append(l, [2]int{i, i})
	}
	// What both begin and end with need not be looked at: mostly that is nearly all.
	endA, endB := len(a), len(b)
	for ; min(endA, endB) > i && a[endA-1] == b[endB-1]; endA-- {
		endB--
	}
	most := lengths(a[i:endA], b[i:endB])
	for x, y := i, i; x < endA && y < endB; {
		switch {
		case a[x] == b[y]:
			l = append(l, [2]int{x, y})
			x++
			y++
		case most[x-i+1][y-i] >= most[x-i][y-i+1]:
			x++
		default:
			y++
		}
	}
	for ; endA < len(a); endA++ {
		l = append(l, [2]int{endA, endB})
		endB++
	}
	return l
}

// lengths is how long the longest list is that a and b have in their order, from each place of a and each of b on.
func lengths[T comparable](a, b []T) [][]int16 {
	most := make([][]int16, len(a)+1)
	for i := range most {
		most[i] = make([]int16, len(b)+1)
	}
	for i := len(a) - 1; i >= 0; i-- {
		for j := len(b) - 1; j >= 0; j-- {
			if a[i] == b[j] {
				most[i][j] = most[i+1][j+1] + 1
			} else {
				most[i][j] = max(most[i+1][j], most[i][j+1])
			}
		}
	}
	return most
}
