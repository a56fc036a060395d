package cells_test

import (
	"iter"
	"slices"
	"strings"
	"sync"
	"unicode/utf8"

	"glossary/api"
	"glossary/props"
)

// A second way to the same things, from the document's words alone: units are read off the front of a text, the syllables of Hangul are counted out, each of the six rules is asked whether it applies, and a text is cut at all edges that it has. The tests hold the package against it.

// plain is a point, with the bytes of its unit.
type plain struct {
	point    rune
	from, to int
}

// plainUnits are the points of a text.
func plainUnits(s string) []plain {
	var row []plain
	for at := 0; at < len(s); {
		r, wide := utf8.DecodeRuneInString(s[at:])
		if wide == 1 && s[at] >= 0x80 {
			r = 0x110000 + rune(s[at])
		}
		row = append(row, plain{r, at, at + wide})
		at += wide
	}
	return row
}

// plainHangul has a letter for each of Hangul's characters: L and V and T are leads, vowels, tails, O and C syllables without a tail and with one.
var plainHangul = sync.OnceValue(func() map[rune]string {
	m := map[rune]string{}
	for l := range rune(19) {
		m[0x1100+l] = "L"
		for v := range rune(21) {
			m[0x1161+v] = "V"
			m[0xac00+(l*21+v)*28] = "O"
			for t := rune(1); t < 28; t++ {
				m[0x11a7+t] = "T"
				m[0xac00+(l*21+v)*28+t] = "C"
			}
		}
	}
	return m
})

// plainRules are the chapter's six rules: which of them apply between two points.
func plainRules(p *props.Props, a, b rune) [6]bool {
	either := func(is func(rune) bool) bool { return is(a) || is(b) }
	pair := plainHangul()[a] + plainHangul()[b]
	return [6]bool{
		a == 0x0d && b == 0x0a,
		either(func(r rune) bool {
			return r == 0x0a || r == 0x0d || r > 0x10ffff || p.Kind(r) == api.PControl
		}),
		p.Kind(b) == api.PMark || p.Kind(b) == api.PJoiner || p.Class(b) > 0,
		p.Kind(a) == api.PJoiner,
		len(pair) == 2 && strings.Contains("LL LV LO LC VV VT OV OT TT CT", pair),
		true,
	}
}

// plainEdge tells whether an edge lies between two points: what the first rule says that applies.
func plainEdge(p *props.Props, a, b rune) bool {
	says := [6]bool{false, true, false, false, false, true}
	rules := plainRules(p, a, b)
	return says[slices.Index(rules[:], true)]
}

// plainEdges are the edges of a text, rising.
func plainEdges(p *props.Props, s string) []int {
	var edges []int
	row := plainUnits(s)
	for i, x := range row {
		if i == 0 || plainEdge(p, row[i-1].point, x.point) {
			edges = append(edges, x.from)
		}
	}
	if len(row) > 0 {
		edges = append(edges, len(s))
	}
	return edges
}

// plainCells are the cells of a text.
func plainCells(p *props.Props, s string) []api.Range {
	var l []api.Range
	edges := plainEdges(p, s)
	for i := 1; i < len(edges); i++ {
		l = append(l, api.Range{From: edges[i-1], To: edges[i]})
	}
	return l
}

// listed is what an iterator hands out.
func listed(all iter.Seq2[int, int]) []api.Range {
	var l []api.Range
	for from, to := range all {
		l = append(l, api.Range{From: from, To: to})
	}
	return l
}

// reversed is a list from behind.
func reversed(l []api.Range) []api.Range {
	l = slices.Clone(l)
	slices.Reverse(l)
	return l
}

// chance hands out numbers that look like chance, and are the same each time.
type chance uint64

// below is a number from 0 on, below n.
func (c *chance) below(n int) int {
	*c = *c*6364136223846793005 + 1442695040888963407
	return int(*c>>33) % n
}

// text is a text of so many of these pieces.
func (c *chance) text(pieces []string, n int) string {
	var b strings.Builder
	for range n {
		b.WriteString(pieces[c.below(len(pieces))])
	}
	return b.String()
}

// texts does something with every text of up to n of these pieces.
func texts(pieces []string, n int, do func(string)) {
	var more func(string, int)
	more = func(s string, left int) {
		do(s)
		if left == 0 {
			return
		}
		for _, piece := range pieces {
			more(s+piece, left-1)
		}
	}
	more("", n)
}
