package normal

import (
	"cmp"
	"slices"

	"glossary/props"
)

// classed is a point with its class.
type classed struct {
	point rune
	class int
}

// decomposed is a row, decomposed.
func decomposed(p *props.Props, l []rune) []classed {
	row := spread(p, nil, l)
	order(row)
	return row
}

// spread is a row, and behind it the full decompositions of points; nothing is put in order.
func spread(p *props.Props, row []classed, l []rune) []classed {
	s := spreader{p: p, row: slices.Grow(row, len(l)), known: map[rune][]classed{}}
	for _, r := range l {
		s.put(r)
	}
	return s.row
}

// spreader puts full decompositions into a row.
type spreader struct {
	p     *props.Props
	row   []classed
	known map[rune][]classed // of the points with a decomposition of their own that were met: the way to its end may be long
}

// put puts a point's full decomposition behind the row.
func (s *spreader) put(r rune) {
	if full, ok := s.known[r]; ok {
		s.row = append(s.row, full...)
		return
	}
	own := s.p.Decomp(r)
	if len(own) == 0 {
		s.row = append(s.row, classed{r, s.p.Class(r)})
		return
	}
	from := len(s.row)
	for i := range len(own) { // Hangul's parts are told in the same way.
		s.put(own[i])
	}
	s.known[r] = slices.Clone(s.row[from:])
}

// order puts each longest run of points of classes above 0 in the order of their classes.
func order(row []classed) {
	from := 0 // where the run begins
	settle := func(to int) {
		slices.SortStableFunc(row[from:to], byClass)
		from = to + 1
	}
	for i, c := range row {
		if c.class == 0 {
			settle(i)
		}
	}
	settle(len(row))
}

func byClass(a, b classed) int { return cmp.Compare(a.class, b.class) }

// joined is a decomposed row, composed.
func joined(p *props.Props, row []classed) []rune {
	l := make([]rune, 0, len(row))
	starter := -1 // its place, if there is one
	last := 0     // the class of the last point, if that isn't the starter
	for _, c := range row {
		blocked := starter < 0 || starter < len(l)-1 && last >= c.class
		if !blocked {
			if r, ok := p.Compose(l[starter], c.point); ok {
				l[starter] = r
				continue
			}
		}
		if c.class == 0 {
			starter = len(l)
		}
		last = c.class
		l = append(l, c.point)
	}
	return l
}

// bare are the points of a row.
func bare(row []classed) []rune {
	l := make([]rune, len(row))
	for i, c := range row {
		l[i] = c.point
	}
	return l
}
