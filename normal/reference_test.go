package normal_test

import (
	"slices"

	"glossary/props"
)

// A second way to the same things, from the document's words alone: decompositions are done round by round till nothing changes, marks change places two by two, the starter is looked for from behind, and a stream keeps all that came. The tests hold the package against it.

// plainFull is the full decomposition of each point of a row.
func plainFull(p *props.Props, l []rune) []rune {
	for {
		var next []rune
		for _, r := range l {
			if own := p.Decomp(r); len(own) > 0 {
				next = append(next, own...)
			} else {
				next = append(next, r)
			}
		}
		if slices.Equal(next, l) { // A point that decomposes to itself alone is refused.
			return next
		}
		l = next
	}
}

func plainDecompose(p *props.Props, l []rune) []rune {
	row := plainFull(p, l)
	for again := true; again; {
		again = false
		for i := 1; i < len(row); i++ {
			a, b := p.Class(row[i-1]), p.Class(row[i])
			if b > 0 && a > b {
				row[i-1], row[i] = row[i], row[i-1]
				again = true
			}
		}
	}
	return row
}

// put is a point of a composed row, and the class that it had when it was put there.
type put struct {
	point rune
	class int
}

// starterOf is the place of the last point that had the class 0 when it was put there; -1, if there is none.
func starterOf(row []put) int {
	for i, x := range slices.Backward(row) {
		if x.class == 0 {
			return i
		}
	}
	return -1
}

func plainCompose(p *props.Props, l []rune) []rune {
	var row []put
	for _, c := range plainDecompose(p, l) {
		starter, last := starterOf(row), len(row)-1
		if starter < 0 || last != starter && p.Class(row[last].point) >= p.Class(c) {
			row = append(row, put{c, p.Class(c)})
			continue
		}
		if r, ok := p.Compose(row[starter].point, c); ok {
			row[starter].point = r
		} else {
			row = append(row, put{c, p.Class(c)})
		}
	}
	var points []rune
	for _, x := range row {
		points = append(points, x.point)
	}
	return points
}

func plainCut(p *props.Props, l []rune, at int) bool {
	if at == 0 || at == len(l) {
		return true
	}
	return at > 0 && at < len(l) && p.Class(plainFull(p, l[at:at+1])[0]) == 0
}

// plainStream keeps all that came, and how much was answered.
type plainStream struct {
	p    *props.Props
	came []rune
	told int
}

func (s *plainStream) write(l []rune) []rune {
	s.came = append(s.came, l...)
	row := plainDecompose(s.p, s.came)
	from := s.told
	for i, r := range row {
		if s.p.Class(r) == 0 {
			s.told = max(s.told, i+1)
		}
	}
	return row[from:s.told]
}

func (s *plainStream) end() []rune {
	l := plainDecompose(s.p, s.came)[s.told:]
	s.came, s.told = nil, 0
	return l
}

// chance hands out numbers that look like chance, and are the same each time.
type chance uint64

// below is a number from 0 on, below n.
func (c *chance) below(n int) int {
	*c = *c*6364136223846793005 + 1442695040888963407
	return int(*c>>33) % n
}

// row is a row of so many of these points.
func (c *chance) row(letters []rune, n int) []rune {
	l := make([]rune, n)
	for i := range l {
		l[i] = letters[c.below(len(letters))]
	}
	return l
}

// rows does something with every row of up to n of these points; the row is changed from one to the next.
func rows(letters []rune, n int, do func([]rune)) {
	l := make([]rune, 0, n)
	var more func()
	more = func() {
		do(l)
		if len(l) == n {
			return
		}
		for _, r := range letters {
			l = append(l, r)
			more()
			l = l[:len(l)-1]
		}
	}
	more()
}
