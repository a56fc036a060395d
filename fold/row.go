package fold

import (
	"cmp"
	"slices"
	"unicode/utf8"

	"glossary/api"
	"glossary/normal"
	"glossary/points"
	"glossary/props"
)

// placed is a point, with the bytes of the unit from which it comes.
type placed struct {
	point rune
	class int // told once the row is spread
	unit  api.Range
}

// between is no point: it has the class 0 and no decomposition, and nothing decomposes to it.
const between = -1

// folded is the folded row of a text.
func folded(p *props.Props, s string) []placed {
	return spread(p, turned(p, spread(p, placedOf(s))))
}

// placedOf are the points of a text.
func placedOf(s string) []placed {
	row := make([]placed, 0, utf8.RuneCountInString(s))
	for at, r := range s {
		wide := utf8.RuneLen(r)
		if r == api.Instead { // An ill-formed byte is told so, too.
			r, wide = points.Next(s, at)
		}
		row = append(row, placed{point: r, unit: api.Range{From: at, To: at + wide}})
	}
	return row
}

// spread replaces each point of a row by its full decomposition, and puts the row in order.
func spread(p *props.Props, row []placed) []placed {
	// All points are decomposed in one call, since many may have a long way in common; what stands between them tells afterwards what belongs to which.
	l := make([]rune, 0, 2*len(row))
	for _, x := range row {
		l = append(l, x.point, between)
	}
	out := make([]placed, 0, len(row))
	from := 0 // the point whose decomposition it is
	for _, r := range normal.Decompose(p, l) {
		if r == between {
			from++
			continue
		}
		out = append(out, placed{r, p.Class(r), row[from].unit})
	}
	order(out)
	return out
}

// order puts each longest run of points of classes above 0 in the order of their classes.
func order(row []placed) {
	for from := 0; from < len(row); from++ {
		to := from
		for to < len(row) && row[to].class > 0 {
			to++
		}
		slices.SortStableFunc(row[from:to], byClass)
		from = to
	}
}

func byClass(a, b placed) int { return cmp.Compare(a.class, b.class) }

// turned replaces each point of a row by what it is folded to.
func turned(p *props.Props, row []placed) []placed {
	out := make([]placed, 0, len(row))
	for _, x := range row {
		for _, r := range p.Fold(x.point) {
			out = append(out, placed{point: r, unit: x.unit})
		}
	}
	return out
}

// text is the text of a row's points.
func text(row []placed) string {
	l := make([]rune, len(row))
	for i, x := range row {
		l[i] = x.point
	}
	t, _ := points.Text(l) // All are points: those of a text, and characters that the properties tell.
	return t
}
