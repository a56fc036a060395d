package props

import (
	"slices"
	"sort"

	"glossary/api"
)

// row is numbers, and the value that is said of them.
type row struct {
	points api.Span
	value  int
}

// run is numbers of one value: from one on, up to the next run's.
type run struct {
	from  rune
	value int
}

// runs are all numbers, rising; ahead of the first run the value is 0.
type runs []run

// noCharacters are rows without a value, of what may lie within a row but is no character.
func noCharacters() []row { return []row{{api.Span{Lo: 0xd800, Hi: 0xdfff}, 0}} }

// at is the value of a number.
func (l runs) at(r rune) int {
	behind := sort.Search(len(l), func(i int) bool { return l[i].from > r })
	if behind == 0 {
		return 0
	}
	return l[behind-1].value
}

// runsOf are the runs of rows, of which each holds over those ahead of it.
func runsOf(rows []row) runs {
	edges := edgesOf(rows)
	values := make([]int, len(edges)) // of the numbers from an edge up to the next one
	untold := allOf(len(edges))
	// From behind: so no edge is told twice, however many rows lie over one another.
	for _, x := range slices.Backward(rows) {
		first, _ := slices.BinarySearch(edges, x.points.Lo)
		for at := untold.from(first); edges[at] <= x.points.Hi; at = untold.from(at) {
			values[at] = x.value
			untold.drop(at)
		}
	}
	var l runs
	value := 0
	for at, from := range edges {
		if values[at] != value {
			value = values[at]
			l = append(l, run{from, value})
		}
	}
	return l
}

// edgesOf are the numbers at which a row begins, or behind which it ends, rising.
func edgesOf(rows []row) []rune {
	edges := make([]rune, 0, 2*len(rows))
	for _, x := range rows {
		edges = append(edges, x.points.Lo, x.points.Hi+1)
	}
	slices.Sort(edges)
	return slices.Compact(edges)
}

// left are some of the numbers from 0 on: of each one that isn't there any more it has one further on that may be.
type left []int

// allOf are all numbers below n.
func allOf(n int) left {
	l := make(left, n)
	for i := range l {
		l[i] = i
	}
	return l
}

// drop takes a number out, but not the last one.
func (l left) drop(i int) { l[i] = i + 1 }

// from is the first number that is left, from i on.
func (l left) from(i int) int {
	for l[i] != i {
		l[i] = l[l[i]] // Half as far for whoever comes next.
		i = l[i]
	}
	return i
}
