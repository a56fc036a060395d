package fold_test

import (
	"unicode/utf8"

	"glossary/api"
	"glossary/props"
)

// A second way to the same things, from the document's words alone: units are read off the front of a text, decompositions are done round by round till nothing changes, marks change places two by two, and the text is put together point by point. The tests hold the package against it.

// plain is a point, with the bytes of its unit.
type plain struct {
	point    rune
	from, to int
}

// plainUnits are the points of a text.
func plainUnits(s string) []plain {
	var row []plain
	for at := 0; at < len(s); {
		r, wide := utf8.DecodeRuneInString(s[at:])
		if wide == 1 && s[at] >= 0x80 {
			r = 0x110000 + rune(s[at])
		}
		row = append(row, plain{r, at, at + wide})
		at += wide
	}
	return row
}

// plainSpread is a row, spread.
func plainSpread(p *props.Props, row []plain) []plain {
	for again := true; again; {
		again = false
		var next []plain
		for _, x := range row {
			own := p.Decomp(x.point)
			if len(own) == 0 {
				own = []rune{x.point}
			} else {
				again = true
			}
			for _, r := range own {
				next = append(next, plain{r, x.from, x.to})
			}
		}
		row = next
	}
	for again := true; again; {
		again = false
		for i := 1; i < len(row); i++ {
			a, b := p.Class(row[i-1].point), p.Class(row[i].point)
			if b > 0 && a > b {
				row[i-1], row[i] = row[i], row[i-1]
				again = true
			}
		}
	}
	return row
}

// plainRow is the folded row of a text.
func plainRow(p *props.Props, s string) []plain {
	var row []plain
	for _, x := range plainSpread(p, plainUnits(s)) {
		for _, r := range p.Fold(x.point) {
			row = append(row, plain{r, x.from, x.to})
		}
	}
	return plainSpread(p, row)
}

// plainFold is a text, folded, and its spots.
func plainFold(p *props.Props, s string) (string, []api.Spot) {
	var text []byte
	var spots []api.Spot
	for _, x := range plainRow(p, s) {
		spots = append(spots, api.Spot{At: len(text), From: x.from, To: x.to})
		if x.point > 0x10ffff {
			text = append(text, byte(x.point-0x110000))
		} else {
			text = utf8.AppendRune(text, x.point)
		}
	}
	return string(text), spots
}

// chance hands out numbers that look like chance, and are the same each time.
type chance uint64

// below is a number from 0 on, below n.
func (c *chance) below(n int) int {
	*c = *c*6364136223846793005 + 1442695040888963407
	return int(*c>>33) % n
}

// text is a text of so many of these pieces.
func (c *chance) text(pieces []string, n int) string {
	s := ""
	for range n {
		s += pieces[c.below(len(pieces))]
	}
	return s
}

// texts does something with every text of up to n of these pieces.
func texts(pieces []string, n int, do func(string)) {
	var more func(string, int)
	more = func(s string, left int) {
		do(s)
		if left == 0 {
			return
		}
		for _, piece := range pieces {
			more(s+piece, left-1)
		}
	}
	more("", n)
}
