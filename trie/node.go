package trie

import (
	"maps"
	"slices"
)

// node stands for a row: that of the node ahead of it, and its piece behind that. But for the top it has a thing or at least two nodes behind it, so that there are never many more nodes than things, however long the rows are.
type node[V any] struct {
	piece []rune // never empty, but for the top
	thing V
	has   bool
	next  map[rune]*node[V] // the nodes behind, by the first number of their pieces; nil, if there are none
}

// entry is a row with the thing under it.
type entry[V any] struct {
	row   []rune
	thing V
}

// toward is the node behind n by which a rest may go on, if there is one, and how many numbers its piece has in common with the rest.
func (n *node[V]) toward(rest []rune) (*node[V], int) {
	if len(rest) == 0 {
		return nil, 0
	}
	next := n.next[rest[0]]
	if next == nil {
		return nil, 0
	}
	return next, common(next.piece, rest)
}

// onward is the node behind n with whose row l begins, if there is one, and how long that row is; n's own is the first at numbers of l.
func (n *node[V]) onward(l []rune, at int) (*node[V], int) {
	next, same := n.toward(l[at:])
	if next == nil || same < len(next.piece) {
		return nil, 0
	}
	return next, at + same
}

// grown is what onward is, but that the node is made if it isn't there; at must not be the end of l.
func (n *node[V]) grown(l []rune, at int) (*node[V], int) {
	next, same := n.toward(l[at:])
	switch {
	case next == nil:
		next = &node[V]{piece: slices.Clone(l[at:])}
		same = len(next.piece)
		n.hang(next)
	case same < len(next.piece):
		next.split(same)
	}
	return next, at + same
}

// hang puts a node behind n.
func (n *node[V]) hang(next *node[V]) {
	if n.next == nil {
		n.next = map[rune]*node[V]{}
	}
	n.next[next.piece[0]] = next
}

// drop takes a node away that is behind n.
func (n *node[V]) drop(next *node[V]) {
	delete(n.next, next.piece[0])
	if len(n.next) == 0 { // An empty map keeps the room that it once needed.
		n.next = nil
	}
}

// split cuts the piece of n: what n was stands behind n from then on. Both parts are new memory, so that neither keeps the other's room.
func (n *node[V]) split(at int) {
	behind := *n
	behind.piece = slices.Clone(n.piece[at:])
	*n = node[V]{piece: slices.Clone(n.piece[:at])}
	n.hang(&behind)
}

// melt makes one node of n and the only one behind it, if n stands for nothing else.
func (n *node[V]) melt() {
	if n.has || len(n.next) != 1 {
		return
	}
	for _, only := range n.next {
		only.piece = slices.Concat(n.piece, only.piece)
		*n = *only
	}
}

// list adds to l what n and the nodes behind it hold, in the order of their rows; ahead is what stands ahead of n's piece.
func (n *node[V]) list(ahead []rune, l []entry[V]) []entry[V] {
	row := slices.Concat(ahead, n.piece)
	if n.has {
		l = append(l, entry[V]{row, n.thing})
	}
	for _, first := range slices.Sorted(maps.Keys(n.next)) {
		l = n.next[first].list(row, l)
	}
	return l
}

// common is how many numbers two rows have in common, from the first one on.
func common(a, b []rune) int {
	n := 0
	for n < len(a) && n < len(b) && a[n] == b[n] {
		n++
	}
	return n
}
